/- walk.step: a prefix and what it covers, so deep, behind a row. -/
import Derived.Test.YtgjdpmpbldofpaaWlkSteps
import Derived.Test.YtgjdpmpbldofpaaWlkGrow
import Derived.Test.YtgjdpmpbldofpaaPfxHalves
import Derived.Deep.RegionHeld3
namespace Go.Proofs.Ytgjdpmpbldofpaa.Wlk
open Go.RowKit Mem Pfx PR Oct

theorem halves_is (p : Pf) (hp : G p) (h : 0 < ex p) (w : World) : Calls Try.prog 30 #[.agg #[.int .u32 p.a, .int .i64 p.n]] w fun e w' => e = .returned (.tuple #[.agg #[.int .u32 (lowP p).a, .int .i64 (lowP p).n], .agg #[.int .u32 (highP p).a, .int .i64 (highP p).n], .bool true]) ∧ Below w.heap.size w w' := by
  have hl := hp.len
  obtain ⟨k, hk⟩ : ∃ k : Nat, p.n = (k : Int) := ⟨p.n.toNat, by omega⟩
  have hex : ex p = 32 - k := by unfold ex; omega
  have hg : goodB p.a (k : Int) = true := by rw [← hk]; exact hp.1
  have h0 := halves_good p.a k hp.2 hg (by omega) w
  have e1 : (lowP p).n = ((k + 1 : Nat) : Int) := by unfold lowP mk; dsimp only; omega
  have e2 : (highP p).n = ((k + 1 : Nat) : Int) := by unfold highP mk; dsimp only; omega
  have e3 : (highP p).a = highN p.a k := by unfold highP mk highN; dsimp only; rw [show ex p - 1 = 31 - k by omega]
  rw [e1, e2, e3, hk]
  exact h0
set_option maxRecDepth 100000 in
set_option maxHeartbeats 8000000 in
theorem step_any : ∀ (d : Nat) (p : Pf), G p → ∀ (A : Option Addr) (c m : Nat) (L : List Pf) (base : Nat) (W : World), W.ownsRow base 35 2 (.slice A m c) m (pcells L) → base ≤ W.heap.size → m + 2 ^ (d + 1) ≤ 100000 →
    Calls Try.prog 27 #[.slice A m c, .agg #[.int .u32 p.a, .int .i64 p.n], .int .i64 d] W (GrowsP base (.slice A m c) (m + (stepsL d p).length) (L ++ stepsL d p) W) := by
  intro d
  induction d with
  | zero =>
    intro p hp A c m L base W ho hbase hm
    obtain ⟨i0, E0⟩ := elemP
    have HO := Go.Lib.hid ho
    have HP := Go.Lib.hid hp
    have hpw := pow_pos (0 + 1)
    have hm1 : m + 1 ≤ 100000 := by omega
    have HM := Go.Lib.hid hm
    have hn := hp.len
    obtain ⟨c0, c1⟩ := cells_two W (.int .u32 (p.a : Int)) (.int .i64 p.n) 35
    have hB2 : Below W.heap.size W ((W.alloc (.cells #[.int .u32 (p.a : Int), .int .i64 p.n] 35)).alloc (.cells #[.int .u32 (p.a : Int), .int .i64 p.n] 35)) := below_new2 _ _ _
    have HB2 := Go.Lib.hid hB2
    have O2 := Go.Lib.hid (own_keep ho hB2)
    have HS2 := Go.Lib.hid (show W.heap.size + 2 = ((W.alloc (.cells #[.int .u32 (p.a : Int), .int .i64 p.n] 35)).alloc (.cells #[.int .u32 (p.a : Int), .int .i64 p.n] 35)).heap.size by simp)
    have d0 : ((W.alloc (.cells #[.int .u32 (p.a : Int), .int .i64 p.n] 35)).alloc (.cells #[.int .u32 (p.a : Int), .int .i64 p.n] 35)).cell? ⟨W.heap.size, 0, none⟩ = some (.int .u32 p.a) := keeps (below_new _ _) c0
    have d1 : ((W.alloc (.cells #[.int .u32 (p.a : Int), .int .i64 p.n] 35)).alloc (.cells #[.int .u32 (p.a : Int), .int .i64 p.n] 35)).cell? ⟨W.heap.size, 1, none⟩ = some (.int .i64 p.n) := keeps (below_new _ _) c1
    have HD := Go.Lib.hid (And.intro d0 d1)
    have hrn := row_new2 (W.alloc (.cells #[.int .u32 (p.a : Int), .int .i64 p.n] 35)) (.int .u32 (p.a : Int)) (.int .i64 p.n) 35
    rw [show (W.alloc (.cells #[.int .u32 (p.a : Int), .int .i64 p.n] 35)).heap.size = W.heap.size + 1 by simp] at hrn
    have HRN := Go.Lib.hid hrn
    have HNB := Go.Lib.hid (own_not ho (Nat.le_refl W.heap.size))
    have HBS := Go.Lib.hid hbase
    have HE := Go.Lib.hid (show stepsL 0 p = [p] from rfl)
    rcases Nat.eq_zero_or_pos (ex p) with hx | hx
    · have CH := Go.Lib.hid (fun w => halves_bad p.a p.n hp.2 (.inr (by unfold ex at hx; omega)) w)
      obtain ⟨pa, pn⟩ := p
      dsimp only at HD HB2 O2 HS2 HRN CH hn ⊢
      clear hrn ho hp hpw hm hB2 c0 c1 d0 d1 hx
      go_enter Try.func27, Try.ntmps27
      go_wp2_with (first
        | (at_builtin; refine wpList_append_row rfl (.tmp 10) (.tmp 12) rfl E0 base _ m (pcells L) rfl O2.out _ 1 [.int .u32 pa, .int .i64 pn] rfl ?_ ?_ (by unfold maxLen; omega) (by omega) ?_ (m + 1) rfl ?_; exact HRN.out; exact ones2 _ _ _ _; exact Nat.le_trans HBS.out HB2.out.size; intro A1 c3 w3 hown1 hg1 hat1 hb1; have O3 := Go.Lib.hid (own_snoc (p := ⟨pa, pn⟩) hown1); have HG3 := Go.Lib.hid (grown_trans (grown_below HB2.out _) hg1 (.inl rfl)); have HAT := Go.Lib.hid (show (Value.slice A1 (m + 1) c3).ownBlock = (Value.slice A m c).ownBlock ∨ ∃ g, (Value.slice A1 (m + 1) c3).ownBlock = some g ∧ W.heap.size ≤ g from hat1.elim .inl (fun h => .inr ⟨_, h, HB2.out.size⟩)); have k0 := (grown_cell hg1 (p := ⟨W.heap.size, 0, none⟩) (by have := HS2.out; dsimp only; omega) HNB.out).trans HD.out.1; have k1 := (grown_cell hg1 (p := ⟨W.heap.size, 1, none⟩) (by have := HS2.out; dsimp only; omega) HNB.out).trans HD.out.2; clear hown1 hg1 hat1 hb1)
        | (go_at_call 30; have tok := O3.out; refine (CH.out _).mono ?_; rintro e w4 ⟨rfl, hb4⟩; have O4 := Go.Lib.hid (own_keep O3.out (Pfx.Below.tr hb4 (below_new2 w4 (.cells #[.int .u32 0, .int .i64 0] 35) (.cells #[.int .u32 0, .int .i64 0] 35)))); have HG5 := Go.Lib.hid (grown_trans HG3.out (grown_below (Pfx.Below.tr hb4 (below_new2 w4 (.cells #[.int .u32 0, .int .i64 0] 35) (.cells #[.int .u32 0, .int .i64 0] 35))) _) (.inl rfl)); clear hb4 tok k0 k1))
      go_ret
      exact ⟨A1, c3, by rw [HE.out]; rfl, by rw [HE.out]; exact O4.out, HG5.out, by rw [HE.out]; exact HAT.out⟩
    · have CH := Go.Lib.hid (fun w => halves_is p hp hx w)
      obtain ⟨pa, pn⟩ := p
      generalize lowP ⟨pa, pn⟩ = lo at CH
      generalize highP ⟨pa, pn⟩ = hi at CH
      obtain ⟨la, ln⟩ := lo
      obtain ⟨ha, hn2⟩ := hi
      dsimp only at HD HB2 O2 HS2 HRN CH hn ⊢
      clear hrn ho hp hpw hm hB2 c0 c1 d0 d1 hx
      go_enter Try.func27, Try.ntmps27
      go_wp2_with (first
        | (at_builtin; refine wpList_append_row rfl (.tmp 10) (.tmp 12) rfl E0 base _ m (pcells L) rfl O2.out _ 1 [.int .u32 pa, .int .i64 pn] rfl ?_ ?_ (by unfold maxLen; omega) (by omega) ?_ (m + 1) rfl ?_; exact HRN.out; exact ones2 _ _ _ _; exact Nat.le_trans HBS.out HB2.out.size; intro A1 c3 w3 hown1 hg1 hat1 hb1; have O3 := Go.Lib.hid (own_snoc (p := ⟨pa, pn⟩) hown1); have HG3 := Go.Lib.hid (grown_trans (grown_below HB2.out _) hg1 (.inl rfl)); have HAT := Go.Lib.hid (show (Value.slice A1 (m + 1) c3).ownBlock = (Value.slice A m c).ownBlock ∨ ∃ g, (Value.slice A1 (m + 1) c3).ownBlock = some g ∧ W.heap.size ≤ g from hat1.elim .inl (fun h => .inr ⟨_, h, HB2.out.size⟩)); have k0 := (grown_cell hg1 (p := ⟨W.heap.size, 0, none⟩) (by have := HS2.out; dsimp only; omega) HNB.out).trans HD.out.1; have k1 := (grown_cell hg1 (p := ⟨W.heap.size, 1, none⟩) (by have := HS2.out; dsimp only; omega) HNB.out).trans HD.out.2; clear hown1 hg1 hat1 hb1)
        | (go_at_call 30; have tok := O3.out; refine (CH.out _).mono ?_; rintro e w4 ⟨rfl, hb4⟩; have O4 := Go.Lib.hid (own_keep O3.out (Pfx.Below.tr hb4 (below_new2 w4 (.cells #[.int .u32 la, .int .i64 ln] 35) (.cells #[.int .u32 ha, .int .i64 hn2] 35)))); have HG5 := Go.Lib.hid (grown_trans HG3.out (grown_below (Pfx.Below.tr hb4 (below_new2 w4 (.cells #[.int .u32 la, .int .i64 ln] 35) (.cells #[.int .u32 ha, .int .i64 hn2] 35))) _) (.inl rfl)); clear hb4 tok k0 k1))
      go_ret
      exact ⟨A1, c3, by rw [HE.out]; rfl, by rw [HE.out]; exact O4.out, HG5.out, by rw [HE.out]; exact HAT.out⟩
  | succ d ih =>
    intro p hp A c m L base W ho hbase hm
    have HIH := Go.Lib.hid ih
    obtain ⟨i0, E0⟩ := elemP
    have HO := Go.Lib.hid ho
    have HP := Go.Lib.hid hp
    have hpw := pow_pos (d + 1 + 1)
    have hm1 : m + 1 ≤ 100000 := by omega
    have HM := Go.Lib.hid hm
    have hn := hp.len
    obtain ⟨c0, c1⟩ := cells_two W (.int .u32 (p.a : Int)) (.int .i64 p.n) 35
    have hB2 : Below W.heap.size W ((W.alloc (.cells #[.int .u32 (p.a : Int), .int .i64 p.n] 35)).alloc (.cells #[.int .u32 (p.a : Int), .int .i64 p.n] 35)) := below_new2 _ _ _
    have HB2 := Go.Lib.hid hB2
    have O2 := Go.Lib.hid (own_keep ho hB2)
    have HS2 := Go.Lib.hid (show W.heap.size + 2 = ((W.alloc (.cells #[.int .u32 (p.a : Int), .int .i64 p.n] 35)).alloc (.cells #[.int .u32 (p.a : Int), .int .i64 p.n] 35)).heap.size by simp)
    have d0 : ((W.alloc (.cells #[.int .u32 (p.a : Int), .int .i64 p.n] 35)).alloc (.cells #[.int .u32 (p.a : Int), .int .i64 p.n] 35)).cell? ⟨W.heap.size, 0, none⟩ = some (.int .u32 p.a) := keeps (below_new _ _) c0
    have d1 : ((W.alloc (.cells #[.int .u32 (p.a : Int), .int .i64 p.n] 35)).alloc (.cells #[.int .u32 (p.a : Int), .int .i64 p.n] 35)).cell? ⟨W.heap.size, 1, none⟩ = some (.int .i64 p.n) := keeps (below_new _ _) c1
    have HD := Go.Lib.hid (And.intro d0 d1)
    have hrn := row_new2 (W.alloc (.cells #[.int .u32 (p.a : Int), .int .i64 p.n] 35)) (.int .u32 (p.a : Int)) (.int .i64 p.n) 35
    rw [show (W.alloc (.cells #[.int .u32 (p.a : Int), .int .i64 p.n] 35)).heap.size = W.heap.size + 1 by simp] at hrn
    have HRN := Go.Lib.hid hrn
    have HNB := Go.Lib.hid (own_not ho (Nat.le_refl W.heap.size))
    have HBS := Go.Lib.hid hbase
    have y0 : ((d : Int) + 1 == 0) = false := by simp; omega
    rcases Nat.eq_zero_or_pos (ex p) with hx | hx
    · have HE := Go.Lib.hid (show stepsL (d + 1) p = [p] by unfold stepsL; rw [if_neg (by omega)])
      have CH := Go.Lib.hid (fun w => halves_bad p.a p.n hp.2 (.inr (by unfold ex at hx; omega)) w)
      obtain ⟨pa, pn⟩ := p
      dsimp only at HD HB2 O2 HS2 HRN CH hn ⊢
      clear hrn ho hp hpw hm hB2 c0 c1 d0 d1 hx ih
      go_enter Try.func27, Try.ntmps27
      go_wp2_with (first
        | (at_builtin; refine wpList_append_row rfl (.tmp 10) (.tmp 12) rfl E0 base _ m (pcells L) rfl O2.out _ 1 [.int .u32 pa, .int .i64 pn] rfl ?_ ?_ (by unfold maxLen; omega) (by omega) ?_ (m + 1) rfl ?_; exact HRN.out; exact ones2 _ _ _ _; exact Nat.le_trans HBS.out HB2.out.size; intro A1 c3 w3 hown1 hg1 hat1 hb1; have O3 := Go.Lib.hid (own_snoc (p := ⟨pa, pn⟩) hown1); have HG3 := Go.Lib.hid (grown_trans (grown_below HB2.out _) hg1 (.inl rfl)); have HAT := Go.Lib.hid (show (Value.slice A1 (m + 1) c3).ownBlock = (Value.slice A m c).ownBlock ∨ ∃ g, (Value.slice A1 (m + 1) c3).ownBlock = some g ∧ W.heap.size ≤ g from hat1.elim .inl (fun h => .inr ⟨_, h, HB2.out.size⟩)); have k0 := (grown_cell hg1 (p := ⟨W.heap.size, 0, none⟩) (by have := HS2.out; dsimp only; omega) HNB.out).trans HD.out.1; have k1 := (grown_cell hg1 (p := ⟨W.heap.size, 1, none⟩) (by have := HS2.out; dsimp only; omega) HNB.out).trans HD.out.2; clear hown1 hg1 hat1 hb1)
        | (go_at_call 30; have tok := O3.out; refine (CH.out _).mono ?_; rintro e w4 ⟨rfl, hb4⟩; have O4 := Go.Lib.hid (own_keep O3.out (Pfx.Below.tr hb4 (below_new2 w4 (.cells #[.int .u32 0, .int .i64 0] 35) (.cells #[.int .u32 0, .int .i64 0] 35)))); have HG5 := Go.Lib.hid (grown_trans HG3.out (grown_below (Pfx.Below.tr hb4 (below_new2 w4 (.cells #[.int .u32 0, .int .i64 0] 35) (.cells #[.int .u32 0, .int .i64 0] 35))) _) (.inl rfl)); clear hb4 tok k0 k1))
      go_ret
      exact ⟨A1, c3, by rw [HE.out]; rfl, by rw [HE.out]; exact O4.out, HG5.out, by rw [HE.out]; exact HAT.out⟩
    · obtain ⟨g1, g2, -⟩ := half_ps hp hx
      have HE := Go.Lib.hid (show stepsL (d + 1) p = p :: (stepsL d (lowP p) ++ stepsL d (highP p)) by conv => lhs; unfold stepsL; rw [if_pos hx])
      have CH := Go.Lib.hid (fun w => halves_is p hp hx w)
      have hl1 := steps_len d (lowP p)
      have hp2 : 2 ^ (d + 1 + 1) = 2 ^ (d + 1) * 2 := Nat.pow_succ _ _
      have CL := Go.Lib.hid (fun (A1 : Option Addr) (c3 : Nat) (X : World) (h : X.ownsRow base 35 2 (.slice A1 (m + 1) c3) (m + 1) (pcells (L ++ [p]))) (hb : base ≤ X.heap.size) => HIH.out (lowP p) g1 A1 c3 (m + 1) (L ++ [p]) base X h hb (by omega))
      have CR := Go.Lib.hid (fun (A1 : Option Addr) (c3 : Nat) (X : World) (h : X.ownsRow base 35 2 (.slice A1 (m + 1 + (stepsL d (lowP p)).length) c3) (m + 1 + (stepsL d (lowP p)).length) (pcells (L ++ [p] ++ stepsL d (lowP p)))) (hb : base ≤ X.heap.size) => HIH.out (highP p) g2 A1 c3 (m + 1 + (stepsL d (lowP p)).length) (L ++ [p] ++ stepsL d (lowP p)) base X h hb (by omega))
      clear HIH ih g1 g2 hl1 hp2
      generalize hS1 : stepsL d (lowP p) = S1 at CL CR HE
      generalize hS2 : stepsL d (highP p) = S2 at CR HE
      clear hS1 hS2
      obtain ⟨pa, pn⟩ := p
      generalize lowP ⟨pa, pn⟩ = lo at CH CL
      generalize highP ⟨pa, pn⟩ = hi at CH CR
      obtain ⟨la, ln⟩ := lo
      obtain ⟨ha, hn2⟩ := hi
      dsimp only at HD HB2 O2 HS2 HRN CH CL CR hn ⊢
      clear hrn ho hp hpw hm hB2 c0 c1 d0 d1 hx
      go_enter Try.func27, Try.ntmps27
      go_wp2_with (first
        | (at_builtin; refine wpList_append_row rfl (.tmp 10) (.tmp 12) rfl E0 base _ m (pcells L) rfl O2.out _ 1 [.int .u32 pa, .int .i64 pn] rfl ?_ ?_ (by unfold maxLen; omega) (by omega) ?_ (m + 1) rfl ?_; exact HRN.out; exact ones2 _ _ _ _; exact Nat.le_trans HBS.out HB2.out.size; intro A1 c3 w3 hown1 hg1 hat1 hb1; have O3 := Go.Lib.hid (own_snoc (p := ⟨pa, pn⟩) hown1); have HG3 := Go.Lib.hid (grown_trans (grown_below HB2.out _) hg1 (.inl rfl)); have HAT := Go.Lib.hid (show (Value.slice A1 (m + 1) c3).ownBlock = (Value.slice A m c).ownBlock ∨ ∃ g, (Value.slice A1 (m + 1) c3).ownBlock = some g ∧ W.heap.size ≤ g from hat1.elim .inl (fun h => .inr ⟨_, h, HB2.out.size⟩)); have k0 := (grown_cell hg1 (p := ⟨W.heap.size, 0, none⟩) (by have := HS2.out; dsimp only; omega) HNB.out).trans HD.out.1; have k1 := (grown_cell hg1 (p := ⟨W.heap.size, 1, none⟩) (by have := HS2.out; dsimp only; omega) HNB.out).trans HD.out.2; clear hown1 hg1 hat1 hb1)
        | (go_at_call 30; have tok := O3.out; refine (CH.out _).mono ?_; rintro e w4 ⟨rfl, hb4⟩; have O4 := Go.Lib.hid (own_keep O3.out hb4); have HG4 := Go.Lib.hid (grown_trans HG3.out (grown_below hb4 _) (.inl rfl)); clear hb4 tok k0 k1))
      obtain ⟨x0, x1⟩ := cells_two w4 (.int .u32 (la : Int)) (.int .i64 ln) 35
      replace x0 := keeps (below_new _ (.cells #[.int .u32 (ha : Int), .int .i64 hn2] 35)) x0
      replace x1 := keeps (below_new _ (.cells #[.int .u32 (ha : Int), .int .i64 hn2] 35)) x1
      obtain ⟨x2, x3⟩ := cells_two (w4.alloc (.cells #[.int .u32 (la : Int), .int .i64 ln] 35)) (.int .u32 (ha : Int)) (.int .i64 hn2) 35
      rw [show (w4.alloc (.cells #[.int .u32 (la : Int), .int .i64 ln] 35)).heap.size = w4.heap.size + 1 by simp] at x2 x3
      have hb5 := below_new2 w4 (.cells #[.int .u32 (la : Int), .int .i64 ln] 35) (.cells #[.int .u32 (ha : Int), .int .i64 hn2] 35)
      have O5 := Go.Lib.hid (own_keep O4.out hb5)
      have HG5 := Go.Lib.hid (grown_trans HG4.out (grown_below hb5 _) (.inl rfl))
      have N0 := Go.Lib.hid (own_not O4.out (Nat.le_refl w4.heap.size))
      have N1 := Go.Lib.hid (own_not O4.out (Nat.le_succ w4.heap.size))
      have HZ := Go.Lib.hid (show w4.heap.size + 1 < ((w4.alloc (.cells #[.int .u32 (la : Int), .int .i64 ln] 35)).alloc (.cells #[.int .u32 (ha : Int), .int .i64 hn2] 35)).heap.size by simp)
      have HBB := Go.Lib.hid (show base ≤ ((w4.alloc (.cells #[.int .u32 (la : Int), .int .i64 ln] 35)).alloc (.cells #[.int .u32 (ha : Int), .int .i64 hn2] 35)).heap.size from Nat.le_trans HBS.out HG5.out.size)
      clear hb5 O4 HG4
      generalize w4.heap.size = b4 at x0 x1 x2 x3 N0 N1 HZ ⊢
      generalize (w4.alloc (.cells #[.int .u32 (la : Int), .int .i64 ln] 35)).alloc (.cells #[.int .u32 (ha : Int), .int .i64 hn2] 35) = W5 at x0 x1 x2 x3 O5 HG5 HZ HBB ⊢
      have T0 := Go.Lib.hid True.intro
      have HK5 := Go.Lib.hid (fun (X : World) (h : W5.grownBy X (Value.slice A1 (m + 1) c3).ownBlock) => (⟨(grown_cell h (p := ⟨b4, 0, none⟩) (by have := HZ.out; dsimp only; omega) N0.out).trans x0, (grown_cell h (p := ⟨b4, 1, none⟩) (by have := HZ.out; dsimp only; omega) N0.out).trans x1, (grown_cell h (p := ⟨b4 + 1, 0, none⟩) HZ.out N1.out).trans x2, (grown_cell h (p := ⟨b4 + 1, 1, none⟩) HZ.out N1.out).trans x3⟩ : X.cell? ⟨b4, 0, none⟩ = some (.int .u32 la) ∧ X.cell? ⟨b4, 1, none⟩ = some (.int .i64 ln) ∧ X.cell? ⟨b4 + 1, 0, none⟩ = some (.int .u32 ha) ∧ X.cell? ⟨b4 + 1, 1, none⟩ = some (.int .i64 hn2)))
      have G0 := Go.Lib.hid (grown_below ((Below.refl W5.heap.size W5).drew) (Value.slice A1 (m + 1) c3).ownBlock)
      have O50 := Go.Lib.hid (own_keep O5.out ((Below.refl W5.heap.size W5).drew))
      have HBB0 := Go.Lib.hid (show base ≤ W5.drew.heap.size from HBB.out)
      have hS0 := HK5.out _ G0.out
      have zd : IntKind.i64.wrap (d : Int) = (d : Int) := by rw [IntKind.wrap_i64]; have := HM.out; have : d < 2 ^ (d + 1 + 1) := Nat.lt_of_lt_of_le (Nat.lt_two_pow_self) (pow_mono (by omega)); omega
      have zd2 : (d : Int) + 1 ≤ 100000 := by have := HM.out; have : d < 2 ^ (d + 1 + 1) := Nat.lt_of_lt_of_le (Nat.lt_two_pow_self) (pow_mono (by omega)); omega
      clear x0 x1 x2 x3
      go_region_held3 (fun X => X.cell? ⟨b4, 0, none⟩ = some (.int .u32 la) ∧ X.cell? ⟨b4, 1, none⟩ = some (.int .i64 ln) ∧ X.cell? ⟨b4 + 1, 0, none⟩ = some (.int .u32 ha) ∧ X.cell? ⟨b4 + 1, 1, none⟩ = some (.int .i64 hn2))
        (first | assumption | exact HK5.out _ G0.out | exact HK5.out _ G6.out | exact HK5.out _ G7.out)
        (first
          | (go_at_call 27; have tok := T0.out; (try rw [zd]); (with_reducible refine (CL.out _ _ _ O50.out HBB0.out).mono ?_); rintro e w6 ⟨A6, c6, rfl, ho6, hg6, hat6⟩
             have G6 := Go.Lib.hid (grown_trans G0.out hg6 (.inl rfl))
             have O6 := Go.Lib.hid ho6
             have AT6 := Go.Lib.hid (show (Value.slice A6 (m + 1 + S1.length) c6).ownBlock = (Value.slice A1 (m + 1) c3).ownBlock ∨ ∃ g, (Value.slice A6 (m + 1 + S1.length) c6).ownBlock = some g ∧ W5.heap.size ≤ g from hat6)
             have HB6 := Go.Lib.hid (Nat.le_trans HBB.out G6.out.size)
             clear ho6 hg6 hat6 tok T0)
          | (go_at_call 27; have tok := O6.out; (try rw [zd]); (with_reducible refine (CR.out _ _ _ O6.out HB6.out).mono ?_); rintro e w7 ⟨A7, c7, rfl, ho7, hg7, hat7⟩
             have G7 := Go.Lib.hid (grown_trans G6.out hg7 AT6.out)
             have O7 := Go.Lib.hid ho7
             have AT7 := Go.Lib.hid (show (Value.slice A7 (m + 1 + S1.length + S2.length) c7).ownBlock = (Value.slice A1 (m + 1) c3).ownBlock ∨ ∃ g, (Value.slice A7 (m + 1 + S1.length + S2.length) c7).ownBlock = some g ∧ W5.heap.size ≤ g from hat7.elim (fun h => by rw [h]; exact AT6.out) (fun ⟨g, h1, h2⟩ => .inr ⟨g, h1, Nat.le_trans G6.out.size h2⟩))
             clear ho7 hg7 hat7 tok))
      go_wp2
      go_ret
      have eN : m + (stepsL (d + 1) ⟨pa, pn⟩).length = m + 1 + S1.length + S2.length := by rw [HE.out, List.length_cons, List.length_append]; omega
      have eL : L ++ stepsL (d + 1) ⟨pa, pn⟩ = L ++ [⟨pa, pn⟩] ++ S1 ++ S2 := by rw [HE.out]; simp
      refine ⟨A7, c7, by rw [eN]; rfl, by rw [eN, eL]; exact O7.out, grown_trans HG5.out G7.out HAT.out, ?_⟩
      rw [eN]
      rcases AT7.out with h | ⟨g, h1, h2⟩
      · rw [h]
        exact HAT.out
      · exact .inr ⟨g, h1, Nat.le_trans HG5.out.size h2⟩
end Go.Proofs.Ytgjdpmpbldofpaa.Wlk
