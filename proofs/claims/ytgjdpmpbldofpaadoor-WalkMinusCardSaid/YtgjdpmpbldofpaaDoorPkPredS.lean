/- slices.IndexFunc and slices.DeleteFunc at prefixes, and the program's without, with the function value of Sort. -/
import Derived.Test.YtgjdpmpbldofpaaDoorPkClone
namespace Go.Proofs.YtgjdpmpbldofpaaDoor.PRS
open Go.RowKit Mem Pfx Oct PR

/-- What the predicate tells wherever K holds. -/
def PredIs (P : Pf → Bool) (K : World → Prop) : Prop := ∀ (p : Pf) (W : World), p.ok → K W → Calls Tryd.prog 46 #[pV p] W (Tells (.bool (P p)) W)
set_option maxRecDepth 100000 in
set_option maxHeartbeats 2000000 in
theorem indexfunc_any (v : Value) (l : List Pf) (P : Pf → Bool) (K : World → Prop) (B : Nat) (w : World) (hv : Pfxs w v l) (hP : PredIs P K) (hK : Kp K B) (hB : B ≤ w.heap.size) (hw : K w) :
    Calls Tryd.prog 54 #[v, .func (.func 46) #[] #[]] w (Tells (.int .i64 (placeOf P l)) w) := by
  have HP := Go.Lib.hid hP
  have HV := Go.Lib.hid hv
  have HKB := Go.Lib.hid (fun (W : World) (h : Below w.heap.size w W) => hK.below (h.mono hB) hw)
  obtain ⟨A, c, rfl, hlc, hc⟩ := hv.form
  clear hv hP hK hw hB
  go_enter Tryd.func54, Tryd.ntmps54
  go_wp2
  go_loopw [8] (fun v8 wx => ∃ j : Nat, j ≤ l.length ∧ v8 = .int .i64 j ∧ Hid (∀ q ∈ l.take j, P q = false) ∧ Hid (Below w.heap.size w wx)) (fun v8 _ => l.length - (intOf v8).toNat)
  case atStart => exact ⟨0, Nat.zero_le _, rfl, Go.Lib.hid (by simp), Go.Lib.hid (Below.refl _ _)⟩
  case round =>
    obtain ⟨j, hj, rfl, hno, hb⟩ := hrel
    by_cases hlt : j < l.length
    · obtain ⟨p, hp⟩ : ∃ p, l[j]? = some p := ⟨_, List.getElem?_eq_getElem hlt⟩
      obtain ⟨b, off, rfl, hbl, k0, k1⟩ := (HV.out.keep hb.out).at_ hp
      have hok := (HV.out).2 p (List.mem_of_getElem? hp)
      have z0 : (0 : Int) ≤ (j : Int) := by omega
      have z1 : (j : Int) < (l.length : Int) := by omega
      have hcall := HP.out p wr hok (HKB.out _ hb.out)
      unfold pV at hcall
      have HPP := Go.Lib.hid hp
      clear hp hok hbl
      cases hq : P p with
      | true =>
        rw [hq] at hcall
        have HC := Go.Lib.hid hcall
        have HQ := Go.Lib.hid hq
        clear hcall hq
        go_wp2_with (go_at_call 46; refine HC.out.mono ?_; rintro e w1 ⟨rfl, hb1⟩; have B1 := Go.Lib.hid (hb.out.trans (hb1.mono hb.out.size)); clear hb1 k0 k1)
        go_ret
        exact ⟨by rw [place_some HPP.out HQ.out hno.out]; rfl, B1.out⟩
      | false =>
        rw [hq] at hcall
        have HC := Go.Lib.hid hcall
        have HQ := Go.Lib.hid hq
        clear hcall hq
        go_wp2_with (go_at_call 46; refine HC.out.mono ?_; rintro e w1 ⟨rfl, hb1⟩; have B1 := Go.Lib.hid (hb.out.trans (hb1.mono hb.out.size)); clear hb1 k0 k1)
        go_roundw
        case rel =>
          refine ⟨j + 1, hlt, by go_num, Go.Lib.hid (fun q hq => ?_), B1⟩
          rw [List.take_add_one, HPP.out] at hq
          rcases List.mem_append.1 hq with hq | hq
          · exact hno.out q hq
          · simp at hq; subst hq; exact HQ.out
        case measure => simp [intOf]; omega
    · have z1 : decide ((j : Int) < (l.length : Int)) = false := decide_eq_false (by omega)
      obtain rfl : j = l.length := by omega
      have HN := Go.Lib.hid (show placeOf P l = -1 by have h := hno.out; rw [List.take_length] at h; exact place_none h)
      go_wp2
      go_ret
      exact ⟨by rw [HN.out]; rfl, hb.out⟩
set_option maxRecDepth 100000 in
set_option maxHeartbeats 4000000 in
theorem deletefunc_any (A : Option Addr) (c : Nat) (l : List Pf) (P : Pf → Bool) (K : World → Prop) (base : Nat) (w : World) (hv : w.ownsRow base 24 2 (.slice A l.length c) l.length (pcells l)) (hok : Oks l) (hl : l.length ≤ 100000) (hP : PredIs P K) (hK : Kp K base) (hB : base ≤ w.heap.size) (hw : K w) :
    Calls Tryd.prog 50 #[.slice A l.length c, .func (.func 46) #[] #[]] w (GivesAt base (l.filter (fun p => !P p)) w) := by
  have CI := Go.Lib.hid (indexfunc_any (.slice A l.length c) l P K base w (Pfxs.of_own hv hok) hP hK hB hw)
  have HP := Go.Lib.hid hP
  have HKB := Go.Lib.hid (fun (W : World) (h : Below base w W) => hK.below h hw)
  have HOK := Go.Lib.hid hok
  have HV := Go.Lib.hid hv
  have HCS := Go.Lib.hid (place_cases P l)
  clear hP hK hw hok hv
  rcases HCS.out with ⟨e1, hall⟩ | ⟨i0, e1, hi0, hz, hnz⟩
  · have HA := Go.Lib.hid (show l.filter (fun p => !P p) = l from List.filter_eq_self.2 (fun q hq => by rw [hall q hq]; rfl))
    rw [e1] at CI
    clear hall e1
    go_enter Tryd.func50, Tryd.ntmps50
    go_wp2_with (go_at_call 54; refine CI.out.mono ?_; rintro e w1 ⟨rfl, hb1⟩; have B1 := Go.Lib.hid hb1; clear hb1)
    go_ret
    refine ⟨A, c, by rw [HA.out]; rfl, ?_, B1.out.mono hB⟩
    rw [HA.out]
    exact own_keep HV.out B1.out
  · rw [e1] at CI
    rcases own_blkcases HV.out with ⟨_, _, hnil⟩ | ⟨g, rfl, hg, hblk⟩
    · subst hnil
      simp at hi0
    have HBK := Go.Lib.hid hblk
    have ci : c ≤ maxLen := hblk.2.1
    have cl : l.length ≤ c := hblk.1
    unfold maxLen at ci
    have hne1 : ((i0 : Int) == -1) = false := beq_eq_false_iff_ne.2 (by omega)
    have HZ := Go.Lib.hid hz
    have HNZ := Go.Lib.hid hnz
    have zi : (i0 : Int) < 100000 := by omega
    have zl : (l.length : Int) ≤ 100000 := by omega
    clear hblk e1 hz hnz
    go_enter Tryd.func50, Tryd.ntmps50
    go_wp2_with (go_at_call 54; refine CI.out.mono ?_; rintro e w1 ⟨rfl, hb1⟩; have B1 := Go.Lib.hid (hb1.mono hB); have K1 := Go.Lib.hid (HBK.out.below hb1); clear hb1)
    go_loopw [5, 6] (fun v5 v6 wx => ∃ (i j : Nat) (d : List Pf), i < j ∧ j ≤ l.length ∧ v5 = .int .i64 i ∧ v6 = .int .i64 j ∧ Hid (d.length = l.length ∧ d.take i = (l.take j).filter (fun p => !P p) ∧ d.drop j = l.drop j) ∧ Hid (Blk wx g c d) ∧ Hid (Below base w wx)) (fun _ v6 _ => l.length - (intOf v6).toNat)
    case atStart => exact ⟨i0, i0 + 1, l, by omega, hi0, rfl, by go_num, Go.Lib.hid ⟨rfl, filter_start HZ.out HNZ.out, rfl⟩, K1, B1⟩
    case round =>
      obtain ⟨i, j, d, hij, hj, rfl, rfl, hd, hbk, hb⟩ := hrel
      have z0 : (0 : Int) ≤ (j : Int) := by omega
      have y0 : (0 : Int) ≤ (i : Int) := by omega
      have y1 : (i : Int) < (l.length : Int) := by omega
      by_cases hlt : j < l.length
      · obtain ⟨p, hp⟩ : ∃ p, l[j]? = some p := ⟨_, List.getElem?_eq_getElem hlt⟩
        have hdp : d[j]? = some p := by
          have h := congrArg (fun x => x[0]?) hd.out.2.2
          simpa [List.getElem?_drop, hp] using h
        obtain ⟨k0, k1⟩ := hbk.out.cell hdp
        have z1 : (j : Int) < (l.length : Int) := by omega
        have hcall := fun (W : World) (h : Below wr.heap.size wr W) => HP.out p W (HOK.out p (List.mem_of_getElem? hp)) (HKB.out _ (hb.out.trans (h.mono (Nat.le_trans hg (Nat.le_of_lt hbk.out.lt)))))
        unfold pV at hcall
        have HPP := Go.Lib.hid hp
        have hgl := hbk.out.lt
        obtain ⟨u0, u1⟩ := blk_old hbk.out (show i < d.length by rw [hd.out.1]; omega)
        have hal : Below wr.heap.size wr (wr.alloc (.cells #[.int .u32 p.a, .int .i64 p.n] 24)) := below_new wr _
        have HAL := Go.Lib.hid hal
        obtain ⟨a0, a1⟩ := cells_two wr (.int .u32 (p.a : Int)) (.int .i64 p.n) 24
        have hlw : wr.heap.size < (wr.alloc (.cells #[.int .u32 p.a, .int .i64 p.n] 24)).heap.size := by simp
        clear hp hdp
        cases hq : P p with
        | true =>
          rw [hq] at hcall
          have HC := Go.Lib.hid hcall
          have HQ := Go.Lib.hid hq
          clear hcall hq u0 u1
          go_wp2_with (go_at_call 46; refine (HC.out _ HAL.out).mono ?_; rintro e w2 ⟨rfl, hb2⟩; have B2 := Go.Lib.hid (HAL.out.trans (hb2.mono HAL.out.size)); clear hb2 k0 k1 a0 a1)
          go_roundw
          case rel => exact ⟨i, j + 1, d, by omega, hlt, rfl, by go_num, Go.Lib.hid ⟨hd.out.1, by rw [hd.out.2.1, List.take_add_one, HPP.out, List.filter_append]; simp [HQ.out], by rw [← List.drop_drop, ← List.drop_drop, hd.out.2.2]⟩, Go.Lib.hid (hbk.out.below B2.out), Go.Lib.hid (hb.out.trans (B2.out.mono (Nat.le_trans hg (Nat.le_of_lt hgl))))⟩
          case measure => simp [intOf]; omega
        | false =>
          rw [hq] at hcall
          have HC := Go.Lib.hid hcall
          have HQ := Go.Lib.hid hq
          clear hcall hq
          go_wp2_with (go_at_call 46; refine (HC.out _ HAL.out).mono ?_; rintro e w2 ⟨rfl, hb2⟩; have B2 := Go.Lib.hid (HAL.out.trans (hb2.mono HAL.out.size)); have b0 := (hb2.cell (p := ⟨wr.heap.size, 0, none⟩) hlw).trans a0; have b1 := (hb2.cell (p := ⟨wr.heap.size, 1, none⟩) hlw).trans a1; obtain ⟨o0, c0, o1, c1, f0, f1⟩ := blk_store hbk.out B2.out (show i < d.length by rw [hd.out.1]; omega); clear hb2 k0 k1 a0 a1 u0 u1)
          go_roundw
          case rel =>
            refine ⟨i + 1, j + 1, d.set i p, by omega, hlt, by go_num, by go_num, Go.Lib.hid ⟨by rw [List.length_set]; exact hd.out.1, ?_, ?_⟩, Go.Lib.hid ((hbk.out.below B2.out).set p), Go.Lib.hid (((hb.out.trans (B2.out.mono (Nat.le_trans hg (Nat.le_of_lt hgl)))).setCell (p := ⟨g, i * 2, none⟩) hg _).setCell (p := ⟨g, i * 2 + 1, none⟩) hg _)⟩
            · rw [take_set_at (by rw [hd.out.1]; omega), hd.out.2.1, List.take_add_one, HPP.out, List.filter_append]; simp [HQ.out]
            · rw [List.drop_set_of_lt (by omega), ← List.drop_drop, ← List.drop_drop, hd.out.2.2]
          case measure => simp [intOf]; omega
      · have z1 : decide ((j : Int) < (l.length : Int)) = false := decide_eq_false (by omega)
        obtain rfl : j = l.length := by omega
        have hil : i < d.length := by rw [hd.out.1]; omega
        have HCL := Go.Lib.hid (blk_clear hbk.out (show i ≤ d.length by omega) hg hb.out (L := l.length) (by rw [hd.out.1]) hij)
        obtain ⟨W9, hcl, hk9, hb9⟩ := HCL.out
        have HK9 := Go.Lib.hid hk9
        have HB9 := Go.Lib.hid hb9
        have HF := Go.Lib.hid (show d.take i = l.filter (fun p => !P p) by rw [hd.out.2.1, List.take_length])
        have y2 : (i : Int) ≤ (c : Int) := by omega
        have y3 : (l.length : Int) ≤ (c : Int) := by omega
        have hci : ¬ (c = i) := by omega
        clear hk9 hb9
        go_wp2
        go_ret
        have h9 := HK9.out.own hg
        rw [HF.out] at h9
        have hlen : (l.filter (fun p => !P p)).length = i := by rw [← HF.out, List.length_take]; omega
        refine ⟨some ⟨g, 0, none⟩, c, by rw [hlen]; rfl, ?_, HB9.out⟩
        exact h9
set_option maxHeartbeats 1000000 in
theorem without_any (v : Value) (l : List Pf) (P : Pf → Bool) (K : World → Prop) (w : World) (hv : Pfxs w v l) (hl : l.length ≤ 100000) (hP : PredIs P K) (hK : Kp K w.heap.size) (hw : K w) :
    Calls Tryd.prog 45 #[v, .func (.func 46) #[] #[]] w (GivesAt w.heap.size (l.filter (fun p => !P p)) w) := by
  have CC := Go.Lib.hid (pclone_any v l w hv hl)
  have CD := Go.Lib.hid (fun (A : Option Addr) (c : Nat) (W : World) (h : W.ownsRow w.heap.size 24 2 (.slice A l.length c) l.length (pcells l)) (hb : Below w.heap.size w W) => deletefunc_any A c l P K w.heap.size W h hv.2 hl hP hK hb.size (hK.below hb hw))
  clear hv hP hK hw
  go_enter Tryd.func45, Tryd.ntmps45
  go_wp2_with (first
    | (go_at_call 51; refine CC.out.mono ?_; rintro e w1 ⟨A, c, rfl, ho, hb⟩; have O1 := Go.Lib.hid ho; have B1 := Go.Lib.hid hb; clear ho hb)
    | (go_at_call 50; refine (CD.out _ _ _ O1.out B1.out).mono ?_; rintro e w2 ⟨A2, c2, rfl, ho, hb⟩; have O2 := Go.Lib.hid ho; have B2 := Go.Lib.hid (B1.out.trans hb); clear ho hb))
  go_ret
  exact ⟨_, _, rfl, O2.out, B2.out⟩
end Go.Proofs.YtgjdpmpbldofpaaDoor.PRS
