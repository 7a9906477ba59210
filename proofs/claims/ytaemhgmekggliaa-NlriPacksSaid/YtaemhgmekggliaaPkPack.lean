/- The program's Pack. -/
import Derived.Test.YtaemhgmekggliaaPkRuns
namespace Go.Proofs.Ytaemhgmekggliaa.PR
open Go.RowKit Mem Pfx Oct

theorem outB_false {room : Int} {p : Pf} (h : outB room p = false) : good p = true ∧ (sizeN p : Int) ≤ room := by
  unfold outB at h
  simp only [Bool.or_eq_false_iff, Bool.not_eq_false', decide_eq_false_iff_not] at h
  exact ⟨h.1, by omega⟩
def keptP (room : Int) (l : List Pf) : List Pf := l.filter (fun p => !outB room p)
theorem kept_fits {room : Int} {l : List Pf} : ∀ p ∈ keptP room l, (sizeN p : Int) ≤ room := fun p hp => by
  have h := (List.mem_filter.1 hp).2
  exact (outB_false (by simpa using h)).2
def rlen : Value → Nat
  | .slice _ n _ => n
  | _ => 0
theorem pk_start {w w1 : World} {room : Int} {A : Option Addr} {c : Nat} {F : List Pf} (ho : w1.ownsRow (w.heap.size + 1) 31 2 (.slice A F.length c) F.length (pcells F)) (hok : Oks F)
    (hb : Below (w.heap.size + 1) (w.alloc (.cells #[.int .i64 room] 3)) w1) : PkSt w w.heap.size room (.slice A F.length c) F (.slice none 0 0) 0 [] [] w1 := by
  have hsz : (w.alloc (.cells #[.int .i64 room] 3)).heap.size = w.heap.size + 1 := by simp
  have hs := hb.size
  rw [hsz] at hs
  refine ⟨Pfxs.of_own ho hok, fun g hg => ⟨(ho.lt g hg).2, fun e => by cases e⟩, ⟨rfl, .inl ⟨rfl, rfl⟩⟩, ((Below.refl _ w).alloc (Nat.le_refl _) _).trans (hb.mono (Nat.le_succ _)), ?_, ⟨by omega, fun e => by cases e⟩, rfl, fun i c r hc => by simp at hc⟩
  refine (room_kp (B := w.heap.size + 1) (Nat.lt_succ_self _)).below hb ?_
  unfold RoomAt
  simp
theorem one_run {W : World} {B : Nat} {t : TypeId} {x : Value} (h : W.heap[B]? = some (.cells #[x] t (0, 0))) : Row W 1 (.slice (some ⟨B, 0, none⟩) 1 1) 1 [x] := one_blk h
theorem pk_new {w w2 w3 : World} {bx : Nat} {room : Int} {vr vs : Value} {rest : List Pf} {m : Nat} {cs : List Value} {R : List (List Pf)} {A : Option Addr} {n c nr : Nat} (h : PkSt w bx room vr rest vs m cs R w2)
    (ho : w3.ownsRow w2.heap.size 31 2 (.slice A n c) n (pcells (rest.take n))) (hb : Below w2.heap.size w2 w3) (hf : FitsN rest room n) (_hn : nr = rest.length) :
    PkSt w bx room vr rest vs m cs R (w3.alloc (.cells #[.slice A n c] 22)) ∧ Pfxs (w3.alloc (.cells #[.slice A n c] 22)) (.slice A n c) (rest.take n) ∧ Aside (w3.alloc (.cells #[.slice A n c] 22)) vs (.slice A n c) := by
  have hal : Below w3.heap.size w3 (w3.alloc (.cells #[.slice A n c] 22)) := (Below.refl _ w3).alloc (Nat.le_refl _) _
  have hln : (rest.take n).length = n := by rw [List.length_take]; have := hf.1; omega
  refine ⟨(h.below hb).below hal, Pfxs.keep (Pfxs.of_own (by rw [hln]; exact ho) (h.rest.2.take n)) hal, fun g hg => ?_⟩
  have h1 := ho.lt g hg
  refine ⟨Nat.lt_of_lt_of_le h1.2 hal.size, fun e => ?_⟩
  have h2 := (h.row.lt g e).2
  omega
set_option maxRecDepth 100000 in
set_option maxHeartbeats 8000000 in
theorem pack_any (v : Value) (l : List Pf) (room : Int) (w : World) (hv : Pfxs w v l) (hl : l.length ≤ 100000) : Calls Try.prog 20 #[v, .int .i64 room] w (PackF room (keptP room l) w) := by
  obtain ⟨i0, E0⟩ := elemR
  have hbx := below_new w (.cells #[.int .i64 room] 3)
  have hsz : (w.alloc (.cells #[.int .i64 room] 3)).heap.size = w.heap.size + 1 := by simp
  have CW := Go.Lib.hid (PRP.without_any w.heap.size v l (outB room) (RoomAt w.heap.size room) (w.alloc (.cells #[.int .i64 room] 3)) (hv.keep hbx) hl (out_is _ _) (room_kp (by rw [hsz]; omega)) (by unfold RoomAt; simp))
  rw [hsz] at CW
  have HOK := Go.Lib.hid (show Oks (keptP room l) from fun p hp => hv.2 p (List.mem_filter.1 hp).1)
  have HLE := Go.Lib.hid (show (keptP room l).length ≤ 100000 from Nat.le_trans (List.length_filter_le _ _) hl)
  have HFI := Go.Lib.hid (@kept_fits room l)
  have CW2 := Go.Lib.hid (show Calls Try.prog 34 #[v, .func (.func 40) #[] #[.pointer (some ⟨w.heap.size, 0, none⟩)]] (w.alloc (.cells #[.int .i64 room] 3)) (GivesAt (w.heap.size + 1) (keptP room l) (w.alloc (.cells #[.int .i64 room] 3))) from CW.out)
  clear CW hv
  generalize keptP room l = F at CW2 HOK HLE HFI ⊢
  have CF := Go.Lib.hid (fun (v : Value) (r : List Pf) (W : World) (h : Pfxs W v r) (hr : r.length ≤ 100000) => fits_any v r room W h hr)
  have CC := Go.Lib.hid (fun (v : Value) (r : List Pf) (W : World) (h : Pfxs W v r) (hr : r.length ≤ 100000) => pclone_any v r W h hr)
  go_enter Try.func20, Try.ntmps20
  go_wp2_with (go_at_call 34; refine CW2.out.mono ?_; rintro e w1 ⟨A, c, rfl, ho, hb⟩; have S0 := Go.Lib.hid (pk_start ho HOK.out hb); clear ho hb)
  go_loopw [5, 6] (fun v5 v6 wx => ∃ (Ar : Option Addr) (nr cr : Nat) (As : Option Addr) (m cs0 : Nat) (rest : List Pf) (cs : List Value) (R : List (List Pf)), v5 = .slice Ar nr cr ∧ v6 = .slice As m cs0 ∧ nr ≤ 100000 ∧ nr ≤ cr ∧ m + nr ≤ 100000 ∧ Hid (nr = rest.length ∧ m = R.length) ∧ Hid (PkSt w w.heap.size room v5 rest v6 m cs R wx) ∧ Hid (Packed room F R ∧ F = R.flatten ++ rest)) (fun v5 _ _ => rlen v5)
  case atStart => exact ⟨A, F.length, c, none, 0, 0, F, [], [], rfl, rfl, HLE.out, by obtain ⟨A', c', e, hn, _⟩ := S0.out.rest.form; injection e with e1 e2 e3; omega, by have := HLE.out; omega, Go.Lib.hid ⟨rfl, rfl⟩, S0, Go.Lib.hid ⟨packed_nil _ _, rfl⟩⟩
  case round =>
    obtain ⟨Ar, nr, cr, As, m, cs0, rest, cs, R, rfl, rfl, hnr, hnc, hmn, hlen, hst, hpk⟩ := hrel
    by_cases hlt : 0 < nr
    · have z0 : (0 : Int) < (nr : Int) := by omega
      have z1 : (nr : Int) ≤ 100000 := by omega
      have d0 := hst.out.box
      unfold RoomAt at d0
      have CFS := Go.Lib.hid (CF.out _ rest wr hst.out.rest (by rw [← hlen.out.1]; exact hnr))
      have hne : rest ≠ [] := fun e => by have := hlen.out.1; rw [e] at this; simp at this; omega
      have HNE := Go.Lib.hid hne
      have HFR := Go.Lib.hid (show ∀ p ∈ rest, (sizeN p : Int) ≤ room from fun p hp => HFI.out p (by rw [hpk.out.2]; exact List.mem_append_right _ hp))
      obtain ⟨bq, oq, hA⟩ : ∃ bq oq, Ar = some ⟨bq, oq, none⟩ := by
        obtain ⟨⟨_, A', c', e, hn, hc, hr⟩, _⟩ := hst.out.rest
        injection e with e1 e2 e3
        obtain ⟨b, off, h1, _⟩ := hr (by rw [← hlen.out.1]; exact hlt)
        exact ⟨b, off, by rw [e1, h1]⟩
      subst hA
      clear hne
      have HCL := Go.Lib.hid (fun (n : Nat) (hn : n ≤ nr) (W : World) (h : Pfxs W (.slice (some ⟨bq, oq, none⟩) nr cr) rest) => show Calls Try.prog 41 #[.slice (some ⟨bq, oq, none⟩) n cr] W (fun e w' => ∃ A c, e = .returned (.slice A n c) ∧ w'.ownsRow W.heap.size 31 2 (.slice A n c) n (pcells (rest.take n)) ∧ Below W.heap.size W w') from by
        have hln : (rest.take n).length = n := by rw [List.length_take, ← hlen.out.1]; omega
        have h1 := CC.out (.slice (some ⟨bq, oq, none⟩) n cr) (rest.take n) W (h.prefix_ (by rw [← hlen.out.1]; exact hn) (by omega) (by obtain ⟨A', c', e, _, h3⟩ := h.form; injection e with e1 e2 e3; unfold maxLen; omega)) (by rw [hln]; omega)
        refine h1.mono fun e w' ⟨A, c, he, ho, hb⟩ => ?_
        rw [hln] at he ho
        exact ⟨A, c, he, ho, hb⟩)
      go_wp2_with (first
        | (go_at_call 17; refine CFS.out.mono ?_; rintro e w2 ⟨n, rfl, hf, hb⟩; have F2 := Go.Lib.hid hf; have S2 := Go.Lib.hid (hst.out.below hb); have HN := Go.Lib.hid (fits_pos hf HNE.out HFR.out); have hn1 : n ≤ nr := (by rw [hlen.out.1]; exact hf.1); have x0 : (0 : Int) ≤ (n : Int) := (by omega); have x1 : (n : Int) ≤ (nr : Int) := (by omega); have x2 : (n : Int) ≤ (cr : Int) := (by omega); clear hf hb d0)
        | (go_at_call 41; refine (HCL.out n hn1 w2 S2.out.rest).mono ?_; rintro e w3 ⟨A3, c3, rfl, ho, hb⟩; have O3 := Go.Lib.hid (pk_new S2.out ho hb (F2.out) hlen.out.1); clear ho hb)
        | (at_builtin; refine wpList_append_row rfl (.tmp 17) (.tmp 22) rfl E0 w.heap.size _ m cs rfl O3.out.1.row _ 1 [.slice A3 n c3] rfl (Row.one _ _ _) (fun u hu => by obtain rfl := List.mem_singleton.1 hu; rfl) (by unfold maxLen; omega) (by omega) O3.out.1.low.size (m + 1) rfl ?_; intro A4 c4 w4 hown4 hg4 hat4 hb4; have S4 := Go.Lib.hid (O3.out.1.more O3.out.2.1 O3.out.2.2 hown4 hg4 hat4 hb4); clear hown4 hg4 hat4 hb4))
      go_roundw
      case rel =>
        have hpn := packed_next hpk.out.1 hpk.out.2 F2.out HNE.out HFR.out
        refine ⟨_, nr - n, cr - n, A4, m + 1, c4, rest.drop n, _, _, rfl, rfl, by omega, by omega, by have := HN.out; omega, Go.Lib.hid ⟨by rw [List.length_drop, ← hlen.out.1], by simp [hlen.out.2]⟩, Go.Lib.hid (S4.out.rest_ (cut_pfxs S4.out.rest hlen.out.1 (by rw [← hlen.out.1]; exact hn1)) (fun g hg => ?_)), Go.Lib.hid hpn⟩
        split at hg <;> exact hg
      case measure => have := HN.out; simp [rlen]; omega
    · have z0 : decide ((0 : Int) < (nr : Int)) = false := decide_eq_false (by omega)
      go_wp2
      go_ret
      have hr0 : rest = [] := List.eq_nil_of_length_eq_zero (by have := hlen.out.1; omega)
      have h2 := hlen.out.2
      subst h2
      refine ⟨R, As, cs0, rfl, ⟨cs, hst.out.len, Row.of_own hst.out.row, fun i c r hc hr => (hst.out.runs i c r hc hr).1⟩, hpk.out.1, ?_, hst.out.low⟩
      rw [hpk.out.2, hr0, List.append_nil]
end Go.Proofs.Ytaemhgmekggliaa.PR
