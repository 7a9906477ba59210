/- NlriPacks: the law's walk. -/
import Derived.Test.YtaemhgmekggliaaPkPack
import Derived.Test.YtaemhgmekggliaaPkSort
import Derived.Test.YtaemhgmekggliaaNlriLives
import Derived.Deep.CutBlock
import Derived.Deep.DeepCutAuto
namespace Go.Proofs.Ytaemhgmekggliaa.PR
open Go.RowKit Mem Pfx Oct

theorem Runs.keep {W W' : World} {v : Value} {R : List (List Pf)} (h : Runs W v R) (hb : Below W.heap.size W W') : Runs W' v R := by
  obtain ⟨cs, h1, h2, h3⟩ := h
  exact ⟨cs, h1, h2.keep hb, fun i c r hc hr => (h3 i c r hc hr).keep hb⟩
theorem Runs.at_ {W : World} {A : Option Addr} {n c i : Nat} {R : List (List Pf)} {r : List Pf} (h : Runs W (.slice A n c) R) (hi : R[i]? = some r) :
    ∃ b off Ac cc, A = some ⟨b, off, none⟩ ∧ b < W.heap.size ∧ W.cell? ⟨b, off + i, none⟩ = some (.slice Ac r.length cc) ∧ Pfxs W (.slice Ac r.length cc) r := by
  obtain ⟨cs, h1, ⟨_, A', c', e, hn, hc, hr⟩, h3⟩ := h
  injection e with e1 e2 e3
  subst e1 e3
  have hlt := (List.getElem?_eq_some_iff.1 hi).1
  obtain ⟨b, off, rfl, hb, hcell⟩ := hr (by omega)
  obtain ⟨x, hx⟩ : ∃ x, cs[i]? = some x := ⟨_, List.getElem?_eq_getElem (by omega)⟩
  have h4 := h3 i x r hx hi
  obtain ⟨Ac, cc, rfl, _, _⟩ := h4.form
  exact ⟨b, off, Ac, cc, rfl, hb, hcell i _ hx, h4⟩
theorem runs_cell {w : World} {b off n c i : Nat} {R : List (List Pf)} {r : List Pf} (h : Runs w (.slice (some ⟨b, off, none⟩) n c) R) (hi : R[i]? = some r) :
    ∃ Ac cc, ∀ W, Below w.heap.size w W → W.cell? ⟨b, off + i, none⟩ = some (.slice Ac r.length cc) ∧ Pfxs W (.slice Ac r.length cc) r := by
  obtain ⟨b2, off2, Ac, cc, e, hb, hc, hp⟩ := h.at_ hi
  injection e with e
  injection e with e1 e2
  subst e1 e2
  exact ⟨Ac, cc, fun W hW => ⟨(hW.cell (p := ⟨b, off + i, none⟩) hb).trans hc, hp.keep hW⟩⟩
theorem pf_cell {W : World} {b off n c i : Nat} {l : List Pf} {p : Pf} (h : Pfxs W (.slice (some ⟨b, off, none⟩) n c) l) (hi : l[i]? = some p) :
    W.cell? ⟨b, off + i * 2, none⟩ = some (.int .u32 p.a) ∧ W.cell? ⟨b, off + i * 2 + 1, none⟩ = some (.int .i64 p.n) := by
  obtain ⟨b2, off2, e, _, h1, h2⟩ := h.at_ hi
  injection e with e
  injection e with e1 e2
  subst e1 e2
  exact ⟨h1, h2⟩
theorem runs_len {room : Int} {F : List Pf} {R : List (List Pf)} (h : Packed room F R) : R.length ≤ R.flatten.length := by
  have h1 := h.1
  clear h
  induction R with
  | nil => simp
  | cons a R ih =>
    have h2 := ih (fun r hr => h1 r (by simp [hr]))
    have h3 : 0 < a.length := List.length_pos_iff.2 (h1 a (by simp)).1
    simp only [List.length_cons, List.flatten_cons, List.length_append]
    omega
theorem run_len {R : List (List Pf)} {i : Nat} {r : List Pf} (h : R[i]? = some r) : (R.take (i + 1)).flatten = (R.take i).flatten ++ r ∧ ((R.take (i + 1)).flatten).length ≤ R.flatten.length := by
  constructor
  · rw [List.take_add_one, h, List.flatten_append]; simp
  · have e : R.flatten = (R.take (i + 1)).flatten ++ (R.drop (i + 1)).flatten := by
      rw [← List.flatten_append, List.take_append_drop]
    rw [e, List.length_append]
    omega
theorem size_pos {p : Pf} : 0 < sizeN p ↔ good p = true := by
  unfold sizeN
  split
  · rename_i h; exact ⟨fun _ => h, fun _ => by omega⟩
  · rename_i h; exact ⟨fun h2 => absurd h2 (by omega), fun h2 => absurd h2 h⟩
theorem outB_zero {room : Int} {p : Pf} (h : sizeN p = 0) : outB room p = true := by
  have : good p = false := by
    cases hg : good p with
    | false => rfl
    | true => have := size_pos.2 hg; omega
  simp [outB, this]
theorem outB_big {room : Int} {p : Pf} (h : room < (sizeN p : Int)) : outB room p = true := by simp [outB, h]
theorem outB_ok {room : Int} {p : Pf} (h : 0 < sizeN p) (h2 : (sizeN p : Int) ≤ room) : outB room p = false := by
  have := size_pos.1 h
  simp [outB, this]
  omega
theorem kept_take (room : Int) {l : List Pf} {j : Nat} {p : Pf} (h : l[j]? = some p) : keptP room (l.take (j + 1)) = keptP room (l.take j) ++ [p].filter (fun p => !outB room p) := by
  unfold keptP
  rw [List.take_add_one, h, List.filter_append]
  rfl
theorem kept_no {room : Int} {p : Pf} {A B : List Pf} (h : A = B ++ [p].filter (fun p => !outB room p)) (ho : outB room p = true) : A = B := by rw [h]; simp [ho]
theorem kept_yes {room : Int} {p : Pf} {A B : List Pf} (h : A = B ++ [p].filter (fun p => !outB room p)) (ho : outB room p = false) : A = B ++ [p] := by rw [h]; simp [ho]
theorem sortP_ok {l : List Pf} (h : Oks l) : Oks (sortP l) := fun p hp => by
  have h1 := ((sortP_rising l [] List.Pairwise.nil).2 p).1 hp
  rcases h1 with h1 | h1
  · simp at h1
  · exact h p h1.1
set_option maxRecDepth 100000 in
set_option maxHeartbeats 8000000 in
theorem packs_walk (v : Value) (l0 : List Pf) (room : Int) (w : World) (hv : Pfxs w v l0) (hr : (Lit.int .i64 room).wf = true) : Calls Try.prog 5 #[v, .int .i64 room] w (Tells (.bool true) w) := by
  have hos : Oks (l0.take 40) := hv.2.take 40
  have hl2 : (l0.take 40).length ≤ 40 := by rw [List.length_take]; omega
  have C1 := Go.Lib.hid (show Calls Try.prog 6 #[v, .int .i64 40] w (GivesP (l0.take 40) w) from few_any v l0 40 w hv (by decide))
  obtain ⟨l, hl⟩ : ∃ l, l = l0.take 40 := ⟨_, rfl⟩
  rw [← hl] at hos hl2 C1
  have HOS := Go.Lib.hid hos
  have HRM := Go.Lib.hid hr
  clear hl hv hos hr
  go_enter Try.func5, Try.ntmps5
  go_upto_block 0 with (go_at_call 6; refine C1.out.mono ?_; rintro e w1 ⟨A1, c1, rfl, ho, hb⟩; have K1 := Go.Lib.hid (Pfxs.of_own ho HOS.out); have B1 := Go.Lib.hid hb; clear ho hb)
  have CS := Go.Lib.hid refSize_any
  have hrm := HRM.out
  have r0 : -9223372036854775808 ≤ room ∧ room ≤ 9223372036854775807 := by simpa [Lit.wf, IntKind.min, IntKind.max, IntKind.signed, IntKind.bits] using hrm
  obtain ⟨r0, r1⟩ := r0
  clear hrm
  go_cut [7] (fun s7 wx => ∃ mo : Int, s7 = .int .i64 mo ∧ Hid ((mo = -1 ∧ FitsN l room l.length) ∨ ∃ m : Nat, mo = m ∧ FitsN l room m) ∧ Hid (Below w.heap.size w wx) ∧ Hid (Pfxs wx (.slice A1 l.length c1) l))
  case first =>
    go_wp2
    go_loopw [6, 7, 8] (fun v6 v7 v8 wx => ∃ (j : Nat) (lf mo : Int), v6 = .int .i64 lf ∧ v7 = .int .i64 mo ∧ v8 = .int .i64 j ∧ j ≤ l.length ∧ ((mo = -1 ∧ Hid (lf = room - sumN (l.take j) ∧ ∀ i, i < j → (sumN (l.take (i + 1)) : Int) ≤ room)) ∨ ∃ m : Nat, mo = m ∧ m < 50 ∧ Hid (FitsN l room m)) ∧ Hid (Below w.heap.size w wx) ∧ Hid (Pfxs wx (.slice A1 l.length c1) l)) (fun _ _ v8 _ => l.length - (intOf v8).toNat)
    case atStart => exact ⟨0, room, -1, rfl, rfl, rfl, Nat.zero_le _, .inl ⟨rfl, Go.Lib.hid ⟨by simp [sumN], fun i hi => absurd hi (Nat.not_lt_zero _)⟩⟩, B1, K1⟩
    case round =>
      obtain ⟨j, lf, mo, rfl, rfl, rfl, hj, hcase, hb, hk⟩ := hrel
      have z0 : (0 : Int) ≤ (j : Int) := by omega
      have z9 : (j : Int) ≤ 40 := by omega
      by_cases hlt : j < l.length
      · have z1 : (j : Int) < (l.length : Int) := by omega
        rcases hcase with ⟨rfl, hlf⟩ | ⟨m, rfl, hm50, hm⟩
        · obtain ⟨p, hp⟩ : ∃ p, l[j]? = some p := ⟨_, List.getElem?_eq_getElem hlt⟩
          have hok := (hk.out).2 p (List.mem_of_getElem? hp)
          obtain ⟨b, off, hA, hbl, k0, k1⟩ := (hk.out).at_ hp
          have HT := Go.Lib.hid (sumN_take hp)
          have hsl := sumN_le (l.take j)
          have hsl2 : (l.take j).length = j := by rw [List.length_take]; omega
          rw [hsl2] at hsl
          obtain ⟨s, hs⟩ : ∃ s, s = sumN (l.take j) := ⟨_, rfl⟩
          rw [← hs] at HT hsl
          obtain ⟨z, hz⟩ : ∃ z, z = sizeN p := ⟨_, rfl⟩
          rw [← hz] at HT
          have hz5 : z ≤ 5 := hz ▸ sizeN_le p
          have CSP := Go.Lib.hid (fun (W : World) => show Calls Try.prog 9 #[.agg #[.int .u32 p.a, .int .i64 p.n]] W (Tells (.int .i64 z) W) from by rw [hz]; exact CS.out p W hok.1)
          obtain ⟨e1, hle⟩ := hlf.out
          rw [← hs] at e1
          have hroom : 0 < j → (s : Int) ≤ room := fun h => by have := hle (j - 1) (by omega); rw [show j - 1 + 1 = j by omega, ← hs] at this; exact this
          have hs0 : j = 0 → s = 0 := fun h => by rw [hs, h]; simp [sumN]
          subst hA
          have HLE := Go.Lib.hid hle
          clear hp hok hbl hs hsl2 hz hlf hle
          by_cases hit : lf < (z : Int)
          · have HF := Go.Lib.hid (show FitsN l room j from ⟨hj, HLE.out, fun _ => by rw [HT.out]; omega⟩)
            clear e1 hroom hs0
            go_wp2_with (go_at_call 9; refine (CSP.out _).mono ?_; rintro e x ⟨rfl, hbx⟩; replace k0 := Pfx.keeps hbx k0; replace k1 := Pfx.keeps hbx k1; replace hb := Go.Lib.hid (hb.out.trans (hbx.mono hb.out.size)); replace hk := Go.Lib.hid (hk.out.keep hbx); clear hbx)
            go_roundw
            case rel => exact ⟨j + 1, _, (j : Int), rfl, rfl, by go_num, hlt, .inr ⟨j, rfl, by omega, HF⟩, hb, hk⟩
            case measure => simp [intOf]; omega
          · have y1 : decide (lf < (z : Int)) = false := decide_eq_false hit
            have y2 : decide (lf < 0) = false := decide_eq_false (by omega)
            have wl : IntKind.i64.wrap (lf - (z : Int)) = lf - (z : Int) := by rw [IntKind.wrap_i64]; omega
            have HN := Go.Lib.hid (show lf - (z : Int) = room - sumN (l.take (j + 1)) ∧ ∀ i, i < j + 1 → (sumN (l.take (i + 1)) : Int) ≤ room from ⟨by rw [HT.out]; omega, fun i hi => by
              by_cases e : i = j
              · subst e; rw [HT.out]; omega
              · exact HLE.out i (by omega)⟩)
            clear e1 hroom hs0
            go_wp2_with (go_at_call 9; refine (CSP.out _).mono ?_; rintro e x ⟨rfl, hbx⟩; replace k0 := Pfx.keeps hbx k0; replace k1 := Pfx.keeps hbx k1; replace hb := Go.Lib.hid (hb.out.trans (hbx.mono hb.out.size)); replace hk := Go.Lib.hid (hk.out.keep hbx); clear hbx)
            go_roundw
            case rel => exact ⟨j + 1, lf - (z : Int), -1, rfl, rfl, by go_num, hlt, .inl ⟨rfl, HN⟩, hb, hk⟩
            case measure => simp [intOf]; omega
        · have y1 : decide ((m : Int) < 0) = false := decide_eq_false (by omega)
          go_wp2
          go_meet
          exact ⟨m, rfl, Go.Lib.hid (.inr ⟨m, rfl, hm.out⟩), hb, hk⟩
      · have z1 : decide ((j : Int) < (l.length : Int)) = false := decide_eq_false (by omega)
        obtain rfl : j = l.length := by omega
        rcases hcase with ⟨rfl, hlf⟩ | ⟨m, rfl, hm50, hm⟩
        · go_wp2
          go_meet
          exact ⟨-1, rfl, Go.Lib.hid (.inl ⟨rfl, Nat.le_refl _, hlf.out.2, fun h => absurd h (Nat.lt_irrefl _)⟩), hb, hk⟩
        · go_wp2
          go_meet
          exact ⟨m, rfl, Go.Lib.hid (.inr ⟨m, rfl, hm.out⟩), hb, hk⟩
  case rest =>
  obtain ⟨mo, rfl, hmo, hb, hk⟩ := hcut
  go_upto_if 49 with fail
  go_cut [7] (fun s7 wx => ∃ n : Nat, s7 = .int .i64 n ∧ Hid (FitsN l room n) ∧ wx = wc)
  case first =>
    rcases hmo.out with ⟨rfl, hf⟩ | ⟨m, rfl, hf⟩
    · have HF := Go.Lib.hid hf
      clear hf
      go_wp2
      go_meet
      exact ⟨l.length, rfl, HF, rfl⟩
    · have HF := Go.Lib.hid hf
      have y1 : decide ((m : Int) < 0) = false := decide_eq_false (by omega)
      clear hf
      go_wp2
      go_meet
      exact ⟨m, rfl, HF, rfl⟩
  case rest =>
  obtain ⟨n, rfl, HF, rfl⟩ := hcut
  have C2 := Go.Lib.hid (fun (v : Value) (W : World) (h : Pfxs W v l) => show Calls Try.prog 6 #[v, .int .i64 40] W (GivesP l W) from by
    have h3 := few_any v l 40 W h (by decide)
    rw [List.take_of_length_le hl2] at h3
    exact h3)
  have CFI := Go.Lib.hid (fun (v : Value) (W : World) (h : Pfxs W v l) => fits_any v l room W h (by omega))
  have CSO := Go.Lib.hid (fun (v : Value) (W : World) (h : Pfxs W v l) => nsort_any v l W h (by omega))
  have CRS := Go.Lib.hid (fun (v : Value) (W : World) (h : Pfxs W v l) => refSort_any v l W h (by omega))
  have CPK := Go.Lib.hid (fun (v : Value) (W : World) (h : Pfxs W v l) => pack_any v l room W h (by omega))
  have CSM := Go.Lib.hid same_yes
  have CLV := Go.Lib.hid lives7_any
  have HSO := Go.Lib.hid (sortP_ok HOS.out)
  clear C1
  go_wp2_with (first
    | (go_at_call 6; refine (C2.out _ _ hk.out).mono ?_; rintro e x ⟨A2, c2, rfl, ho, hbx⟩; have PX := Go.Lib.hid (Pfxs.of_own ho HOS.out); replace hb := Go.Lib.hid (hb.out.trans (hbx.mono hb.out.size)); replace hk := Go.Lib.hid (hk.out.keep hbx); clear ho hbx)
    | (go_at_call 17; refine (CFI.out _ _ PX.out).mono ?_; rintro e x ⟨n2, rfl, hf, hbx⟩; have en := fits_one HF.out hf; subst en; replace hb := Go.Lib.hid (hb.out.trans (hbx.mono hb.out.size)); replace hk := Go.Lib.hid (hk.out.keep hbx); clear hf hbx)
    | (go_at_call 18; refine (CSO.out _ _ PX.out).mono ?_; rintro e x ⟨A3, c3, rfl, ho, hbx⟩; have SX := Go.Lib.hid (Pfxs.of_own ho HSO.out); replace hb := Go.Lib.hid (hb.out.trans (hbx.mono hb.out.size)); replace hk := Go.Lib.hid (hk.out.keep hbx); clear ho hbx PX)
    | (go_at_call 19; refine (CRS.out _ _ hk.out).mono ?_; rintro e x ⟨A4, c4, rfl, ho, hbx⟩; have RX := Go.Lib.hid (Pfxs.of_own ho HSO.out); replace SX := Go.Lib.hid (SX.out.keep hbx); replace hb := Go.Lib.hid (hb.out.trans (hbx.mono hb.out.size)); replace hk := Go.Lib.hid (hk.out.keep hbx); clear ho hbx)
    | (go_at_call 14; have hs1 := SX.out; have hs2 := RX.out; refine (CSM.out _ _ _ _ hs1 hs2).mono ?_; rintro e wb ⟨rfl, hbx⟩; replace hb := Go.Lib.hid (hb.out.trans (hbx.mono hb.out.size)); replace hk := Go.Lib.hid (hk.out.keep hbx); clear hs1 hs2 hbx SX RX))
  obtain ⟨i0, E0⟩ := elemP
  have H0 := Go.Lib.hid (show (wb.alloc (.cells #[] 31)).ownsRow wb.heap.size 31 2 (.slice (some ⟨wb.heap.size, 0, none⟩) 0 0) 0 (pcells []) from own_blk2 (Nat.le_refl _) (heap_alloc_new _ _))
  have HB0 := Go.Lib.hid (below_new wb (.cells #[] 31))
  have HKB := Go.Lib.hid (fun (W : World) (h : Below wb.heap.size wb W) => hk.out.keep h)
  have HWB := Go.Lib.hid hb.out
  clear hb hk
  go_loopw [9, 10] (fun v9 v10 wx => ∃ (j m : Nat) (A : Option Addr) (c : Nat), j ≤ l.length ∧ m ≤ j ∧ v10 = .int .i64 j ∧ v9 = .slice A m c ∧ Hid (m = (keptP room (l.take j)).length) ∧ Hid (wx.ownsRow wb.heap.size 31 2 (.slice A m c) m (pcells (keptP room (l.take j)))) ∧ Hid (Below wb.heap.size wb wx)) (fun _ v10 _ => l.length - (intOf v10).toNat)
  case atStart => exact ⟨0, 0, _, 0, Nat.zero_le _, Nat.le_refl _, rfl, rfl, Go.Lib.hid rfl, H0, HB0⟩
  case round =>
    obtain ⟨j, m, Aa, ca, hj, hmj, rfl, rfl, hm, HO, HB2⟩ := hrel
    have z0 : (0 : Int) ≤ (j : Int) := by omega
    by_cases hlt : j < l.length
    · have z1 : (j : Int) < (l.length : Int) := by omega
      obtain ⟨p, hp⟩ : ∃ p, l[j]? = some p := ⟨_, List.getElem?_eq_getElem hlt⟩
      have hok := HOS.out p (List.mem_of_getElem? hp)
      obtain ⟨b, off, hA, hbl, k0, k1⟩ := (HKB.out _ HB2.out).at_ hp
      subst hA
      obtain ⟨z, hz⟩ : ∃ z, z = sizeN p := ⟨_, rfl⟩
      have CSP := Go.Lib.hid (fun (W : World) => show Calls Try.prog 9 #[.agg #[.int .u32 p.a, .int .i64 p.n]] W (Tells (.int .i64 z) W) from by rw [hz]; exact CS.out p W hok.1)
      have HT := Go.Lib.hid (kept_take room hp)
      have HOKP := Go.Lib.hid hok
      by_cases hz0 : z = 0
      · have y1 : decide ((0 : Int) < (z : Int)) = false := decide_eq_false (by omega)
        have HK := Go.Lib.hid (kept_no HT.out (outB_zero (hz ▸ hz0 : sizeN p = 0)))
        clear hp hok hz
        go_wp2_with (go_at_call 9; refine (CSP.out _).mono ?_; rintro e x ⟨rfl, hbx⟩; replace k0 := Pfx.keeps hbx k0; replace k1 := Pfx.keeps hbx k1; replace hbl := Nat.lt_of_lt_of_le hbl hbx.size; replace HB2 := Go.Lib.hid (HB2.out.trans (hbx.mono HB2.out.size)); replace HO := Go.Lib.hid (own_keep HO.out hbx); clear hbx)
        go_roundw
        case rel => exact ⟨j + 1, m, Aa, ca, hlt, by omega, by go_num, rfl, Go.Lib.hid (by rw [HK.out]; exact hm.out), Go.Lib.hid (by rw [HK.out]; exact HO.out), HB2⟩
        case measure => simp [intOf]; omega
      · have y1 : (0 : Int) < (z : Int) := by omega
        by_cases hzr : (z : Int) ≤ room
        · have HK := Go.Lib.hid (kept_yes HT.out (outB_ok (by rw [← hz]; omega) (by rw [← hz]; exact hzr)))
          clear hp hok hz
          go_wp2_with (first
            | (go_at_call 9; refine (CSP.out _).mono ?_; rintro e x ⟨rfl, hbx⟩; replace k0 := Pfx.keeps hbx k0; replace k1 := Pfx.keeps hbx k1; replace hbl := Nat.lt_of_lt_of_le hbl hbx.size; replace HB2 := Go.Lib.hid (HB2.out.trans (hbx.mono HB2.out.size)); replace HO := Go.Lib.hid (own_keep HO.out hbx); clear hbx)
            | (at_builtin; refine wpList_append_row rfl (.tmp 89) (.tmp 94) rfl E0 wb.heap.size _ m (pcells (keptP room (l.take j))) rfl (own_keep HO.out (below_new _ _)) _ 1 (pcells [p]) rfl (own_one2 _ _ _) (ones_p _) (by unfold maxLen; omega) (by omega) (by have := HB2.out.size; simp; omega) (m + 1) rfl ?_; intro A5 c5 w5 hown5 hg5 hat5 hb5; replace HO := Go.Lib.hid hown5; have HB3 := Go.Lib.hid ((HB2.out.alloc HB2.out.size _).trans hb5); clear hown5 hg5 hat5 hb5))
          go_roundw
          case rel => exact ⟨j + 1, m + 1, A5, c5, hlt, by omega, by go_num, rfl, Go.Lib.hid (by rw [HK.out, List.length_append, ← hm.out]; rfl), Go.Lib.hid (by rw [HK.out, pcells_append]; exact HO.out), HB3⟩
          case measure => simp [intOf]; omega
        · have y2 : decide ((z : Int) ≤ room) = false := decide_eq_false hzr
          have HK := Go.Lib.hid (kept_no HT.out (outB_big (p := p) (by rw [← hz]; omega)))
          clear hp hok hz
          go_wp2_with (go_at_call 9; refine (CSP.out _).mono ?_; rintro e x ⟨rfl, hbx⟩; replace k0 := Pfx.keeps hbx k0; replace k1 := Pfx.keeps hbx k1; replace hbl := Nat.lt_of_lt_of_le hbl hbx.size; replace HB2 := Go.Lib.hid (HB2.out.trans (hbx.mono HB2.out.size)); replace HO := Go.Lib.hid (own_keep HO.out hbx); clear hbx)
          go_roundw
          case rel => exact ⟨j + 1, m, Aa, ca, hlt, by omega, by go_num, rfl, Go.Lib.hid (by rw [HK.out]; exact hm.out), Go.Lib.hid (by rw [HK.out]; exact HO.out), HB2⟩
          case measure => simp [intOf]; omega
    · have z1 : decide ((j : Int) < (l.length : Int)) = false := decide_eq_false (by omega)
      obtain rfl : j = l.length := by omega
      have hk := Go.Lib.hid (HKB.out _ HB2.out)
      have hb := Go.Lib.hid (HWB.out.trans (HB2.out.mono HWB.out.size))
      rw [List.take_length] at hm HO
      have HFL := Go.Lib.hid (show (keptP room l).length ≤ l.length from List.length_filter_le _ _)
      have HFO := Go.Lib.hid (show Oks (keptP room l) from fun p hp => HOS.out p (List.mem_filter.1 hp).1)
      generalize keptP room l = F at CPK hm HO HFL HFO
      clear HKB H0 HB0 HB2
      go_wp2_with (first
        | (go_at_call 6; refine (C2.out _ _ hk.out).mono ?_; rintro e x ⟨A2, c2, rfl, ho, hbx⟩; have PX := Go.Lib.hid (Pfxs.of_own ho HOS.out); replace hb := Go.Lib.hid (hb.out.trans (hbx.mono hb.out.size)); replace hk := Go.Lib.hid (hk.out.keep hbx); replace HO := Go.Lib.hid (own_keep HO.out hbx); clear ho hbx)
        | (go_at_call 20; refine (CPK.out _ _ PX.out).mono ?_; rintro e wd ⟨R, Ap, cp, rfl, hruns, hpk, hfl, hbx⟩; have HR := Go.Lib.hid hruns; have HPK := Go.Lib.hid hpk; have HFT := Go.Lib.hid hfl; replace hb := Go.Lib.hid (hb.out.trans (hbx.mono hb.out.size)); replace HO := Go.Lib.hid (own_keep HO.out hbx); clear hruns hpk hfl hbx hk PX))
      have HFLN := Go.Lib.hid (show R.flatten.length ≤ 40 by rw [HFT.out]; exact Nat.le_trans HFL.out hl2)
      have HRL := Go.Lib.hid (runs_len HPK.out)
      have hrl : R.length ≤ 40 := Nat.le_trans HRL.out HFLN.out
      have HRW := Go.Lib.hid (fun (W : World) (h : Below wd.heap.size wd W) => HR.out.keep h)
      have HAW := Go.Lib.hid (fun (W : World) (h : Below wd.heap.size wd W) => (own_form2 HO.out hm.out HFO.out).keep h)
      have hm40 : m ≤ 40 := by rw [hm.out]; exact Nat.le_trans HFL.out hl2
      have H0 := Go.Lib.hid (show (wd.alloc (.cells #[] 31)).ownsRow wd.heap.size 31 2 (.slice (some ⟨wd.heap.size, 0, none⟩) 0 0) 0 (pcells []) from own_blk2 (Nat.le_refl _) (heap_alloc_new _ _))
      have HB0 := Go.Lib.hid (below_new wd (.cells #[] 31))
      have HWD := Go.Lib.hid hb.out
      clear hb HR
      go_loopw [12, 13] (fun v12 v13 wx => ∃ (i mb : Nat) (A : Option Addr) (c : Nat), i ≤ R.length ∧ mb ≤ 40 ∧ v13 = .int .i64 i ∧ v12 = .slice A mb c ∧ Hid (mb = ((R.take i).flatten).length) ∧ Hid (wx.ownsRow wd.heap.size 31 2 (.slice A mb c) mb (pcells ((R.take i).flatten))) ∧ Hid (Below wd.heap.size wd wx)) (fun _ v13 _ => R.length - (intOf v13).toNat)
      case atStart => exact ⟨0, 0, _, 0, Nat.zero_le _, Nat.zero_le _, rfl, rfl, Go.Lib.hid rfl, H0, HB0⟩
      case round =>
        obtain ⟨i, mb, Ab, cb, hi, hmb40, rfl, rfl, hmb, HOB, HBX⟩ := hrel
        have z0 : (0 : Int) ≤ (i : Int) := by omega
        by_cases hlt : i < R.length
        · have z1 : (i : Int) < (R.length : Int) := by omega
          obtain ⟨r, hri⟩ : ∃ r, R[i]? = some r := ⟨_, List.getElem?_eq_getElem hlt⟩
          have HRI := Go.Lib.hid hri
          obtain ⟨bp, op, Ac, cc, hAp, hbp, _, _⟩ := (HRW.out _ HBX.out).at_ hri
          subst hAp
          obtain ⟨A9, c9, hA9⟩ : ∃ A9 c9, ∀ W, Below wd.heap.size wd W → W.cell? ⟨bp, op + i, none⟩ = some (.slice A9 r.length c9) ∧ Pfxs W (.slice A9 r.length c9) r := runs_cell (HRW.out _ (Below.refl _ _)) hri
          have HC9 := Go.Lib.hid hA9
          clear hri hA9
          have hrm := run_len HRI.out
          have HRM2 := Go.Lib.hid hrm
          have hr40 : r.length ≤ 40 := by
            have h1 := hrm.2
            rw [hrm.1, List.length_append] at h1
            have := HFLN.out
            omega
          have hnb40 : mb + r.length ≤ 40 := by
            have h1 := hrm.2
            rw [hrm.1, List.length_append, ← hmb.out] at h1
            have := HFLN.out
            omega
          have HRP := Go.Lib.hid (HPK.out.1 r (List.mem_of_getElem? HRI.out))
          have z2 : (R.length : Int) ≤ 40 := by omega
          clear hrm
          have d0 := (HC9.out _ HBX.out).1
          go_wp2
          go_loopw [14, 15] (fun v14 v15 wx => ∃ (k s : Nat), k ≤ r.length ∧ s ≤ 5 * k ∧ v15 = .int .i64 k ∧ v14 = .int .i64 s ∧ Hid (s = sumN (r.take k)) ∧ Hid (wx.ownsRow wd.heap.size 31 2 (.slice Ab mb cb) mb (pcells ((R.take i).flatten))) ∧ Hid (Below wd.heap.size wd wx)) (fun _ v15 _ => r.length - (intOf v15).toNat)
          case atStart => exact ⟨0, 0, Nat.zero_le _, by omega, rfl, rfl, Go.Lib.hid (by simp [sumN]), HOB, HBX⟩
          case round =>
            obtain ⟨k, s, hk, hs5, rfl, rfl, hs, HOI, HBI⟩ := hrel
            have x0 : (0 : Int) ≤ (k : Int) := by omega
            have d0 := (HC9.out _ HBI.out).1
            by_cases hkr : k < r.length
            · have x1 : (k : Int) < (r.length : Int) := by omega
              obtain ⟨p, hp⟩ : ∃ p, r[k]? = some p := ⟨_, List.getElem?_eq_getElem hkr⟩
              have hok := ((HC9.out _ HBI.out).2).2 p (List.mem_of_getElem? hp)
              obtain ⟨b, off, hA9, hbl, k0, k1⟩ := ((HC9.out _ HBI.out).2).at_ hp
              subst hA9
              have HT := Go.Lib.hid (sumN_take hp)
              obtain ⟨z, hz⟩ : ∃ z, z = sizeN p := ⟨_, rfl⟩
              have CSP := Go.Lib.hid (fun (W : World) => show Calls Try.prog 9 #[.agg #[.int .u32 p.a, .int .i64 p.n]] W (Tells (.int .i64 z) W) from by rw [hz]; exact CS.out p W hok.1)
              have hz5 : z ≤ 5 := hz ▸ sizeN_le p
              have HSZ := Go.Lib.hid (show s + z = sumN (r.take (k + 1)) by rw [HT.out, ← hs.out, hz])
              have wz : IntKind.i64.wrap ((s : Int) + (z : Int)) = ((s + z : Nat) : Int) := by rw [IntKind.wrap_i64]; omega
              have hsz : s + z ≤ 5 * (k + 1) := by omega
              clear hp hok hbl hz
              generalize s + z = q at wz HSZ hsz
              go_wp2_with (go_at_call 9; refine (CSP.out _).mono ?_; rintro e x ⟨rfl, hbx⟩; replace HBI := Go.Lib.hid (HBI.out.trans (hbx.mono HBI.out.size)); replace HOI := Go.Lib.hid (own_keep HOI.out hbx); clear hbx d0 k0 k1)
              go_roundw
              case rel => exact ⟨k + 1, q, hkr, hsz, by go_num, rfl, HSZ, HOI, HBI⟩
              case measure => simp [intOf]; omega
            · have x1 : decide ((k : Int) < (r.length : Int)) = false := decide_eq_false (by omega)
              obtain rfl : k = r.length := by omega
              have HRR := Go.Lib.hid ((HC9.out _ HBI.out).2).1
              have HSR := Go.Lib.hid (show s = sumN r by have h := hs.out; rw [List.take_length] at h; exact h)
              obtain ⟨nb, hnb⟩ : ∃ nb, nb = mb + r.length := ⟨_, rfl⟩
              rw [← hnb] at hnb40
              have HNB := Go.Lib.hid (show nb = ((R.take (i + 1)).flatten).length by rw [HRM2.out.1, List.length_append, ← hmb.out]; exact hnb)
              have HNB2 := Go.Lib.hid hnb
              have hrl0 : 0 < r.length := List.length_pos_iff.2 HRP.out.1
              have y1 : ((r.length : Int) == 0) = false := beq_eq_false_iff_ne.2 (by omega)
              have y2 : decide (room < (s : Int)) = false := decide_eq_false (by have := HRP.out.2; rw [HSR.out]; omega)
              have hs200 : s ≤ 200 := by omega
              have z7 : (nb : Int) ≤ 40 := by omega
              have z8 : (0 : Int) ≤ (nb : Int) := by omega
              clear hnb
              by_cases hnm : nb < m
              · have y3 : (nb : Int) < (m : Int) := by omega
                obtain ⟨x, hx⟩ : ∃ x, F[nb]? = some x := ⟨_, List.getElem?_eq_getElem (by rw [← hm.out]; exact hnm)⟩
                have hokx := HFO.out x (List.mem_of_getElem? hx)
                obtain ⟨z, hz⟩ : ∃ z, z = sizeN x := ⟨_, rfl⟩
                have CSP := Go.Lib.hid (fun (W : World) => show Calls Try.prog 9 #[.agg #[.int .u32 x.a, .int .i64 x.n]] W (Tells (.int .i64 z) W) from by rw [hz]; exact CS.out x W hokx.1)
                have hz5 : z ≤ 5 := hz ▸ sizeN_le x
                have hbig := HPK.out.2 i r x HRI.out (by rw [← HNB.out]; exact hx)
                rw [← HSR.out, ← hz] at hbig
                have wz : IntKind.i64.wrap ((s : Int) + (z : Int)) = ((s + z : Nat) : Int) := by rw [IntKind.wrap_i64]; omega
                have y4 : decide (((s + z : Nat) : Int) ≤ room) = false := decide_eq_false (by omega)
                obtain ⟨b, off, hAa, hbl, _, _⟩ := (HAW.out _ HBI.out).at_ hx
                subst hAa
                have HKX := Go.Lib.hid (fun (W : World) (h : Below wd.heap.size wd W) => pf_cell (HAW.out W h) hx)
                clear hx hokx hz hbig hbl
                generalize s + z = q at wz y4
                go_wp2_with (first
                  | (at_builtin; refine wpList_append_row rfl (.tmp 126) (.tmp 130) rfl E0 wd.heap.size _ mb (pcells ((R.take i).flatten)) rfl HOI.out _ r.length (pcells r) rfl HRR.out (ones_p _) (by unfold maxLen; omega) (by omega) HBI.out.size nb HNB2.out.symm ?_; intro A5 c5 w5 hown5 hg5 hat5 hb5; replace HOI := Go.Lib.hid hown5; replace HBI := Go.Lib.hid (HBI.out.trans hb5); replace d0 := (HC9.out _ HBI.out).1; obtain ⟨k0, k1⟩ := HKX.out _ HBI.out; clear hown5 hg5 hat5 hb5)
                  | (go_at_call 9; refine (CSP.out _).mono ?_; rintro e x ⟨rfl, hbx⟩; replace HBI := Go.Lib.hid (HBI.out.trans (hbx.mono HBI.out.size)); replace HOI := Go.Lib.hid (own_keep HOI.out hbx); clear hbx d0 k0 k1))
                go_roundw
                case rel => exact ⟨i + 1, nb, A5, c5, hlt, hnb40, by go_num, rfl, HNB, Go.Lib.hid (by rw [HRM2.out.1, pcells_append]; exact HOI.out), HBI⟩
                case measure => simp [intOf]; omega
              · have y3 : decide ((nb : Int) < (m : Int)) = false := decide_eq_false (by omega)
                go_wp2_with (at_builtin; refine wpList_append_row rfl (.tmp 126) (.tmp 130) rfl E0 wd.heap.size _ mb (pcells ((R.take i).flatten)) rfl HOI.out _ r.length (pcells r) rfl HRR.out (ones_p _) (by unfold maxLen; omega) (by omega) HBI.out.size nb HNB2.out.symm ?_; intro A5 c5 w5 hown5 hg5 hat5 hb5; replace HOI := Go.Lib.hid hown5; replace HBI := Go.Lib.hid (HBI.out.trans hb5); replace d0 := (HC9.out _ HBI.out).1; clear hown5 hg5 hat5 hb5)
                go_roundw
                case rel => exact ⟨i + 1, nb, A5, c5, hlt, hnb40, by go_num, rfl, HNB, Go.Lib.hid (by rw [HRM2.out.1, pcells_append]; exact HOI.out), HBI⟩
                case measure => simp [intOf]; omega
        · have z1 : decide ((i : Int) < (R.length : Int)) = false := decide_eq_false (by omega)
          obtain rfl : i = R.length := by omega
          have hPB := Go.Lib.hid (show Pfxs wr (.slice Ab mb cb) F from by
            have h1 := own_form2 HOB.out hmb.out (by rw [List.take_length, HFT.out]; exact HFO.out)
            rw [List.take_length, HFT.out] at h1
            exact h1)
          have hPA := Go.Lib.hid (HAW.out _ HBX.out)
          have hb := Go.Lib.hid (HWD.out.trans (HBX.out.mono HWD.out.size))
          go_wp2_with (first
            | (go_at_call 14; have hs1 := hPB.out; have hs2 := hPA.out; refine (CSM.out _ _ _ _ hs1 hs2).mono ?_; rintro e x ⟨rfl, hbx⟩; replace hb := Go.Lib.hid (hb.out.trans (hbx.mono hb.out.size)); clear hs1 hs2 hbx)
            | (go_at_call 11; refine (CLV.out _).mono ?_; rintro e x ⟨rfl, hbx⟩; replace hb := Go.Lib.hid (hb.out.trans (hbx.mono hb.out.size)); clear hbx))
          go_ret
          exact ⟨rfl, hb.out⟩
end Go.Proofs.Ytaemhgmekggliaa.PR
