/- The walk of the law WalkRanges. -/
import Derived.Test.YtgjdpmpbldofpaaDoorWlkFillP
import Derived.Test.YtgjdpmpbldofpaaDoorWlkLives
import Derived.Test.YtgjdpmpbldofpaaDoorWlkRPfx
import Derived.Test.YtgjdpmpbldofpaaDoorWlkSame
namespace Go.Proofs.YtgjdpmpbldofpaaDoor.Wlk
open Go.RowKit Mem Pfx PR Oct

theorem tabz_lt {w : World} (h : TabZ w) : 0 < w.heap.size := block_lt_of_cell (h.cell gTz 0 (by decide))
theorem range_oks {a b : Nat} (hb : b < 4294967296) : Oks (rangeL a b) := by
  unfold rangeL
  split
  · rename_i h
    exact oks_G (fun p hp => ((fill_in (a := a) (e := b + 1) (by omega) (by omega)).1 p hp).1)
  · exact oks_nil
set_option maxRecDepth 100000 in
set_option maxHeartbeats 16000000 in
theorem ranges_walk (a b : Nat) (p : Pf) (w : World) (ha : a < 4294967296) (hb : b < 4294967296) (hp : p.ok) (hT : TabZ w) : Calls Tryd.prog 4 #[.int .u32 a, .int .u32 b, .agg #[.int .u32 p.a, .int .i64 p.n]] w (Tells (.bool true) w) := by
  have BW := Go.Lib.hid (below_new w (.cells #[.int .u32 (p.a : Int), .int .i64 p.n] 24))
  obtain ⟨c0, c1⟩ := cells_two w (.int .u32 (p.a : Int)) (.int .i64 p.n) 24
  have CN := Go.Lib.hid (fun (W : World) (h : Below w.heap.size w W) => range_any a b hb W (tabz_below hT h) (Nat.lt_of_lt_of_le (tabz_lt hT) h.size))
  have HOK := Go.Lib.hid (range_oks (a := a) (b := b) hb)
  have T0 := Go.Lib.hid True.intro
  have CX := Go.Lib.hid (fun (W : World) (v : Value) (h : Pts W v [⟨a, b⟩]) => show a ≤ b → Calls Tryd.prog 8 #[v] W (GivesP (rangeL a b) W) from fun hab => by
    have := rpfx_any v [⟨a, b⟩] W h (norm_one ⟨hab, hb⟩) (by simp)
    rw [show pfxT [(⟨a, b⟩ : Pt)] = rangeL a b by unfold pfxT rangeL; rw [if_pos hab]; simp] at this
    exact this)
  have CG := Go.Lib.hid (fun W => refGood_any p.a p.n hp.1 W)
  obtain ⟨x, hx⟩ : ∃ x : Int, x = (a : Int) := ⟨_, rfl⟩
  obtain ⟨y, hy⟩ : ∃ y : Int, y = (b : Int) := ⟨_, rfl⟩
  obtain ⟨pq, hpq⟩ : ∃ q : Int, q = (p.a : Int) := ⟨_, rfl⟩
  have b00 : 0 ≤ x := by omega
  have b01 : 0 ≤ y := by omega
  have b02 : 0 ≤ pq := by omega
  have b0 : x ≤ 4294967295 := by omega
  have b1 : y ≤ 4294967295 := by omega
  have p0 : pq ≤ 4294967295 := by have := hp.1; omega
  rw [← hx, ← hy] at CN
  rw [← hpq] at BW c0 c1 CG
  rw [← hx, ← hy, ← hpq]
  have HX := Go.Lib.hid hx
  have HY := Go.Lib.hid hy
  by_cases hab : a ≤ b
  · replace CX := Go.Lib.hid (fun (W : World) (v : Value) (h : Pts W v [⟨a, b⟩]) => CX.out W v h hab)
    have l0 : x ≤ y := by omega
    cases hg : good p with
    | false =>
      have CE := Go.Lib.hid (fun W => ends_bad p hp.1 hg W)
      rw [← hpq] at CE
      rw [show goodB p.a p.n = false from hg] at CG
      obtain ⟨pa, pn⟩ := p
      dsimp only at BW c0 c1 CG CE hpq ⊢
      clear hp hT hg ha hb hab hx hy hpq
      go_enter Tryd.func4, Tryd.ntmps4
      go_wp2_with (first
        | (go_at_call 16; have tok := T0.out; refine (CE.out _).mono ?_; rintro e w1 ⟨rfl, hb⟩; replace c0 := keeps (below_new _ (.cells #[.int .i64 0, .int .i64 0] 42)) (keeps hb c0); replace c1 := keeps (below_new _ (.cells #[.int .i64 0, .int .i64 0] 42)) (keeps hb c1); obtain ⟨z0, z1⟩ := cells_two w1 (.int .i64 0) (.int .i64 0) 42; have f0 : (w1.alloc (.cells #[.int .i64 0, .int .i64 0] 42)).frozen? ⟨w1.heap.size, 0, none⟩ = false := (by simp); have f1 : (w1.alloc (.cells #[.int .i64 0, .int .i64 0] 42)).frozen? ⟨w1.heap.size, 1, none⟩ = false := (by simp); have HLT := Go.Lib.hid (show w.heap.size < w1.heap.size from Nat.lt_of_lt_of_le (by simp) hb.size); replace BW := Go.Lib.hid (BW.out.trans ((Pfx.Below.tr hb (below_new w1 (.cells #[.int .i64 0, .int .i64 0] 42))).mono BW.out.size)); clear hb tok T0; have T1 := Go.Lib.hid True.intro)
        | (go_at_call 17; have tok := T1.out; refine (CG.out _).mono ?_; rintro e w2 ⟨rfl, hb⟩; replace f0 := keepsF hb z0 f0; replace f1 := keepsF hb z1 f1; replace c0 := keeps hb c0; replace c1 := keeps hb c1; replace z0 := keeps hb z0; replace z1 := keeps hb z1; have T3 := Go.Lib.hid True.intro; replace BW := Go.Lib.hid (BW.out.trans (hb.mono BW.out.size)); clear hb tok T1; have T2 := Go.Lib.hid True.intro)
        | (go_at_call 17; have tok := T3.out; refine (CG.out _).mono ?_; rintro e w4 ⟨rfl, hb⟩; replace f0 := keepsF hb z0 f0; replace f1 := keepsF hb z1 f1; replace c0 := keeps hb c0; replace c1 := keeps hb c1; replace z0 := keeps hb z0; replace z1 := keeps hb z1; have hrn := row_new2 (w4.alloc (.cells #[] 24)) (.int .i64 x) (.int .i64 y) 42; rw [show (w4.alloc (.cells #[] 24)).heap.size = w4.heap.size + 1 by simp] at hrn; have HRN := Go.Lib.hid (show Pts ((w4.alloc (.cells #[] 24)).alloc (.cells #[.int .i64 x, .int .i64 y] 42)) (.slice (some ⟨w4.heap.size + 1, 0, none⟩) 1 1) [⟨a, b⟩] from by rw [HX.out, HY.out] at hrn ⊢; exact hrn); have B4 := Go.Lib.hid (below_new2 w4 (.cells #[] 24) (.cells #[.int .i64 x, .int .i64 y] 42)); clear hrn; replace BW := Go.Lib.hid (BW.out.trans (hb.mono BW.out.size)); clear hb tok T3; have T4 := Go.Lib.hid True.intro)
        | (go_at_call 8; have tok := T4.out; refine (CX.out _ _ HRN.out).mono ?_; rintro e w5 ⟨A5, c5, rfl, ho, hb⟩; have PX := Go.Lib.hid (Pfxs.of_own ho HOK.out); replace BW := Go.Lib.hid (BW.out.trans ((Pfx.Below.tr B4.out hb).mono BW.out.size)); clear hb ho tok T4; have T5 := Go.Lib.hid True.intro)
        | (go_at_call 19; have tok := T5.out; refine (CN.out _ BW.out).mono ?_; rintro e w6 ⟨A6, c6, rfl, ho, hb⟩; have PR := Go.Lib.hid (Pfxs.of_own ho HOK.out); replace PX := Go.Lib.hid (PX.out.keep hb); replace BW := Go.Lib.hid (BW.out.trans (hb.mono BW.out.size)); clear hb ho tok T5; have T6 := Go.Lib.hid True.intro)
        | (go_at_call 7; have tok := T6.out; refine (same_self _ _ _ (rangeL a b) PR.out PX.out).mono ?_; rintro e w7 ⟨rfl, hb⟩; replace BW := Go.Lib.hid (BW.out.trans (hb.mono BW.out.size)); clear hb tok T6; have T7 := Go.Lib.hid True.intro)
        | (go_at_call 15; have tok := T7.out; refine (lives_any _).mono ?_; rintro e w8 ⟨rfl, hb⟩; replace BW := Go.Lib.hid (BW.out.trans (hb.mono BW.out.size)); clear hb tok T7))
      go_ret
      exact ⟨rfl, BW.out⟩
    | true =>
      have gp : G p := ⟨hg, hp.1⟩
      have CE := Go.Lib.hid (fun W => ends_any p gp W)
      have CR := Go.Lib.hid (fun W => rends_any p gp W)
      unfold tV endsT at CR
      have ht := gp.top
      have hs := sz_pos p
      rw [show goodB p.a p.n = true from hg] at CG
      obtain ⟨u, hu⟩ : ∃ u : Int, u = ((p.a + sz p - 1 : Nat) : Int) := ⟨_, rfl⟩
      rw [← hu, ← hpq] at CE
      dsimp only at CR
      rw [← hu, ← hpq] at CR
      have u0 : 0 ≤ u := by omega
      have u1 : u ≤ 4294967295 := by omega
      obtain ⟨pa, pn⟩ := p
      dsimp only at BW c0 c1 CG CE CR hpq ⊢
      clear hp hT hg ha hb hab hx hy hpq gp ht hs hu
      go_enter Tryd.func4, Tryd.ntmps4
      go_wp2_with (first
        | (go_at_call 16; have tok := T0.out; refine (CE.out _).mono ?_; rintro e w1 ⟨rfl, hb⟩; replace c0 := keeps (below_new _ (.cells #[.int .i64 0, .int .i64 0] 42)) (keeps hb c0); replace c1 := keeps (below_new _ (.cells #[.int .i64 0, .int .i64 0] 42)) (keeps hb c1); obtain ⟨z0, z1⟩ := cells_two w1 (.int .i64 0) (.int .i64 0) 42; have f0 : (w1.alloc (.cells #[.int .i64 0, .int .i64 0] 42)).frozen? ⟨w1.heap.size, 0, none⟩ = false := (by simp); have f1 : (w1.alloc (.cells #[.int .i64 0, .int .i64 0] 42)).frozen? ⟨w1.heap.size, 1, none⟩ = false := (by simp); have HLT := Go.Lib.hid (show w.heap.size < w1.heap.size from Nat.lt_of_lt_of_le (by simp) hb.size); replace BW := Go.Lib.hid (BW.out.trans ((Pfx.Below.tr hb (below_new w1 (.cells #[.int .i64 0, .int .i64 0] 42))).mono BW.out.size)); clear hb tok T0; have T1 := Go.Lib.hid True.intro)
        | (go_at_call 17; have tok := T1.out; refine (CG.out _).mono ?_; rintro e w2 ⟨rfl, hb⟩; replace f0 := keepsF hb z0 f0; replace f1 := keepsF hb z1 f1; replace c0 := keeps hb c0; replace c1 := keeps hb c1; replace z0 := keeps hb z0; replace z1 := keeps hb z1; replace BW := Go.Lib.hid (BW.out.trans (hb.mono BW.out.size)); clear hb tok T1; have T2 := Go.Lib.hid True.intro)
        | (go_at_call 18; have tok := T2.out; refine (CR.out _).mono ?_; rintro e w3 ⟨rfl, hb⟩; replace f0 := keepsF hb z0 f0; replace f1 := keepsF hb z1 f1; replace c0 := keeps hb c0; replace c1 := keeps hb c1; replace z0 := keeps hb z0; replace z1 := keeps hb z1; have n0 : w1.heap.size ≠ w.heap.size := Nat.ne_of_gt HLT.out; have n1 : w.heap.size ≠ w1.heap.size := Nat.ne_of_lt HLT.out; have x0 : ((w3.setCell ⟨w1.heap.size, 0, none⟩ (.int .i64 pq)).setCell ⟨w1.heap.size, 1, none⟩ (.int .i64 u)).cell? ⟨w1.heap.size, 0, none⟩ = some (.int .i64 pq) := (World.cell?_setCell_other _ _ _ _ (by simp)).trans (World.cell?_setCell_same _ _ _ z0); have x1 : ((w3.setCell ⟨w1.heap.size, 0, none⟩ (.int .i64 pq)).setCell ⟨w1.heap.size, 1, none⟩ (.int .i64 u)).cell? ⟨w1.heap.size, 1, none⟩ = some (.int .i64 u) := World.cell?_setCell_same _ _ _ ((World.cell?_setCell_other _ ⟨w1.heap.size, 0, none⟩ _ _ (by simp)).trans z1); have y0 : ((w3.setCell ⟨w1.heap.size, 0, none⟩ (.int .i64 pq)).setCell ⟨w1.heap.size, 1, none⟩ (.int .i64 u)).cell? ⟨w.heap.size, 0, none⟩ = some (.int .u32 pq) := (World.cell?_setCell_other _ _ _ _ (by simp)).trans ((World.cell?_setCell_other _ _ _ _ (by simp)).trans c0); have y1 : ((w3.setCell ⟨w1.heap.size, 0, none⟩ (.int .i64 pq)).setCell ⟨w1.heap.size, 1, none⟩ (.int .i64 u)).cell? ⟨w.heap.size, 1, none⟩ = some (.int .i64 pn) := (World.cell?_setCell_other _ _ _ _ (by simp)).trans ((World.cell?_setCell_other _ _ _ _ (by simp)).trans c1); have HXY := Go.Lib.hid (And.intro (And.intro x0 x1) (And.intro y0 y1)); replace BW := Go.Lib.hid (((BW.out.trans (hb.mono BW.out.size)).setCell (p := ⟨w1.heap.size, 0, none⟩) (Nat.le_of_lt HLT.out) (.int .i64 pq)).setCell (p := ⟨w1.heap.size, 1, none⟩) (Nat.le_of_lt HLT.out) (.int .i64 u)); clear hb tok T2; have T3 := Go.Lib.hid True.intro)
        | (go_at_call 17; have tok := T3.out; refine (CG.out _).mono ?_; rintro e w4 ⟨rfl, hb⟩; replace z0 := keeps hb x0; replace z1 := keeps hb x1; clear x0 x1 y0 y1; have hrn := row_new2 (w4.alloc (.cells #[] 24)) (.int .i64 x) (.int .i64 y) 42; rw [show (w4.alloc (.cells #[] 24)).heap.size = w4.heap.size + 1 by simp] at hrn; have HRN := Go.Lib.hid (show Pts ((w4.alloc (.cells #[] 24)).alloc (.cells #[.int .i64 x, .int .i64 y] 42)) (.slice (some ⟨w4.heap.size + 1, 0, none⟩) 1 1) [⟨a, b⟩] from by rw [HX.out, HY.out] at hrn ⊢; exact hrn); have B4 := Go.Lib.hid (below_new2 w4 (.cells #[] 24) (.cells #[.int .i64 x, .int .i64 y] 42)); clear hrn; replace BW := Go.Lib.hid (BW.out.trans (hb.mono BW.out.size)); clear hb tok T3; have T4 := Go.Lib.hid True.intro)
        | (go_at_call 8; have tok := T4.out; refine (CX.out _ _ HRN.out).mono ?_; rintro e w5 ⟨A5, c5, rfl, ho, hb⟩; have PX := Go.Lib.hid (Pfxs.of_own ho HOK.out); replace BW := Go.Lib.hid (BW.out.trans ((Pfx.Below.tr B4.out hb).mono BW.out.size)); clear hb ho tok T4; have T5 := Go.Lib.hid True.intro)
        | (go_at_call 19; have tok := T5.out; refine (CN.out _ BW.out).mono ?_; rintro e w6 ⟨A6, c6, rfl, ho, hb⟩; have PR := Go.Lib.hid (Pfxs.of_own ho HOK.out); replace PX := Go.Lib.hid (PX.out.keep hb); replace BW := Go.Lib.hid (BW.out.trans (hb.mono BW.out.size)); clear hb ho tok T5; have T6 := Go.Lib.hid True.intro)
        | (go_at_call 7; have tok := T6.out; refine (same_self _ _ _ (rangeL a b) PR.out PX.out).mono ?_; rintro e w7 ⟨rfl, hb⟩; replace BW := Go.Lib.hid (BW.out.trans (hb.mono BW.out.size)); clear hb tok T6; have T7 := Go.Lib.hid True.intro)
        | (go_at_call 15; have tok := T7.out; refine (lives_any _).mono ?_; rintro e w8 ⟨rfl, hb⟩; replace BW := Go.Lib.hid (BW.out.trans (hb.mono BW.out.size)); clear hb tok T7))
      go_ret
      exact ⟨rfl, BW.out⟩
  · have l0 : ¬ (x ≤ y) := by omega
    have l1 : decide (x ≤ y) = false := decide_eq_false l0
    have HRL := Go.Lib.hid (show rangeL a b = [] from if_neg hab)
    cases hg : good p with
    | false =>
      have CE := Go.Lib.hid (fun W => ends_bad p hp.1 hg W)
      rw [← hpq] at CE
      rw [show goodB p.a p.n = false from hg] at CG
      obtain ⟨pa, pn⟩ := p
      dsimp only at BW c0 c1 CG CE hpq ⊢
      clear hp hT hg ha hb hab hx hy hpq CX
      go_enter Tryd.func4, Tryd.ntmps4
      go_wp2_with (first
        | (go_at_call 16; have tok := T0.out; refine (CE.out _).mono ?_; rintro e w1 ⟨rfl, hb⟩; replace c0 := keeps (below_new _ (.cells #[.int .i64 0, .int .i64 0] 42)) (keeps hb c0); replace c1 := keeps (below_new _ (.cells #[.int .i64 0, .int .i64 0] 42)) (keeps hb c1); obtain ⟨z0, z1⟩ := cells_two w1 (.int .i64 0) (.int .i64 0) 42; have f0 : (w1.alloc (.cells #[.int .i64 0, .int .i64 0] 42)).frozen? ⟨w1.heap.size, 0, none⟩ = false := (by simp); have f1 : (w1.alloc (.cells #[.int .i64 0, .int .i64 0] 42)).frozen? ⟨w1.heap.size, 1, none⟩ = false := (by simp); have HLT := Go.Lib.hid (show w.heap.size < w1.heap.size from Nat.lt_of_lt_of_le (by simp) hb.size); replace BW := Go.Lib.hid (BW.out.trans ((Pfx.Below.tr hb (below_new w1 (.cells #[.int .i64 0, .int .i64 0] 42))).mono BW.out.size)); clear hb tok T0; have T1 := Go.Lib.hid True.intro)
        | (go_at_call 17; have tok := T1.out; refine (CG.out _).mono ?_; rintro e w2 ⟨rfl, hb⟩; replace f0 := keepsF hb z0 f0; replace f1 := keepsF hb z1 f1; replace c0 := keeps hb c0; replace c1 := keeps hb c1; replace z0 := keeps hb z0; replace z1 := keeps hb z1; have T3 := Go.Lib.hid True.intro; replace BW := Go.Lib.hid (BW.out.trans (hb.mono BW.out.size)); clear hb tok T1; have T2 := Go.Lib.hid True.intro)
        | (go_at_call 17; have tok := T3.out; refine (CG.out _).mono ?_; rintro e w4 ⟨rfl, hb⟩; replace f0 := keepsF hb z0 f0; replace f1 := keepsF hb z1 f1; replace c0 := keeps hb c0; replace c1 := keeps hb c1; replace z0 := keeps hb z0; replace z1 := keeps hb z1; have PX := Go.Lib.hid (show Pfxs (w4.alloc (.cells #[] 24)) (.slice (some ⟨w4.heap.size, 0, none⟩) 0 0) (rangeL a b) from by rw [HRL.out]; exact Pfxs.of_own (own_blk2 (Nat.le_refl _) (heap_alloc_new _ _)) oks_nil); have B4 := Go.Lib.hid (below_new w4 (.cells #[] 24)); replace BW := Go.Lib.hid (BW.out.trans (hb.mono BW.out.size)); clear hb tok T3; have T4 := Go.Lib.hid True.intro)
        | (go_at_call 19; have tok := T4.out; refine (CN.out _ (BW.out.trans (B4.out.mono BW.out.size))).mono ?_; rintro e w6 ⟨A6, c6, rfl, ho, hb⟩; have PR := Go.Lib.hid (Pfxs.of_own ho HOK.out); replace PX := Go.Lib.hid (PX.out.keep hb); replace BW := Go.Lib.hid (BW.out.trans ((Pfx.Below.tr B4.out hb).mono BW.out.size)); clear hb ho tok T4; have T6 := Go.Lib.hid True.intro)
        | (go_at_call 7; have tok := T6.out; refine (same_self _ _ _ (rangeL a b) PR.out PX.out).mono ?_; rintro e w7 ⟨rfl, hb⟩; replace BW := Go.Lib.hid (BW.out.trans (hb.mono BW.out.size)); clear hb tok T6; have T7 := Go.Lib.hid True.intro)
        | (go_at_call 15; have tok := T7.out; refine (lives_any _).mono ?_; rintro e w8 ⟨rfl, hb⟩; replace BW := Go.Lib.hid (BW.out.trans (hb.mono BW.out.size)); clear hb tok T7))
      go_ret
      exact ⟨rfl, BW.out⟩
    | true =>
      have gp : G p := ⟨hg, hp.1⟩
      have CE := Go.Lib.hid (fun W => ends_any p gp W)
      have CR := Go.Lib.hid (fun W => rends_any p gp W)
      unfold tV endsT at CR
      have ht := gp.top
      have hs := sz_pos p
      rw [show goodB p.a p.n = true from hg] at CG
      obtain ⟨u, hu⟩ : ∃ u : Int, u = ((p.a + sz p - 1 : Nat) : Int) := ⟨_, rfl⟩
      rw [← hu, ← hpq] at CE
      dsimp only at CR
      rw [← hu, ← hpq] at CR
      have u0 : 0 ≤ u := by omega
      have u1 : u ≤ 4294967295 := by omega
      obtain ⟨pa, pn⟩ := p
      dsimp only at BW c0 c1 CG CE CR hpq ⊢
      clear hp hT hg ha hb hab hx hy hpq gp ht hs hu CX
      go_enter Tryd.func4, Tryd.ntmps4
      go_wp2_with (first
        | (go_at_call 16; have tok := T0.out; refine (CE.out _).mono ?_; rintro e w1 ⟨rfl, hb⟩; replace c0 := keeps (below_new _ (.cells #[.int .i64 0, .int .i64 0] 42)) (keeps hb c0); replace c1 := keeps (below_new _ (.cells #[.int .i64 0, .int .i64 0] 42)) (keeps hb c1); obtain ⟨z0, z1⟩ := cells_two w1 (.int .i64 0) (.int .i64 0) 42; have f0 : (w1.alloc (.cells #[.int .i64 0, .int .i64 0] 42)).frozen? ⟨w1.heap.size, 0, none⟩ = false := (by simp); have f1 : (w1.alloc (.cells #[.int .i64 0, .int .i64 0] 42)).frozen? ⟨w1.heap.size, 1, none⟩ = false := (by simp); have HLT := Go.Lib.hid (show w.heap.size < w1.heap.size from Nat.lt_of_lt_of_le (by simp) hb.size); replace BW := Go.Lib.hid (BW.out.trans ((Pfx.Below.tr hb (below_new w1 (.cells #[.int .i64 0, .int .i64 0] 42))).mono BW.out.size)); clear hb tok T0; have T1 := Go.Lib.hid True.intro)
        | (go_at_call 17; have tok := T1.out; refine (CG.out _).mono ?_; rintro e w2 ⟨rfl, hb⟩; replace f0 := keepsF hb z0 f0; replace f1 := keepsF hb z1 f1; replace c0 := keeps hb c0; replace c1 := keeps hb c1; replace z0 := keeps hb z0; replace z1 := keeps hb z1; replace BW := Go.Lib.hid (BW.out.trans (hb.mono BW.out.size)); clear hb tok T1; have T2 := Go.Lib.hid True.intro)
        | (go_at_call 18; have tok := T2.out; refine (CR.out _).mono ?_; rintro e w3 ⟨rfl, hb⟩; replace f0 := keepsF hb z0 f0; replace f1 := keepsF hb z1 f1; replace c0 := keeps hb c0; replace c1 := keeps hb c1; replace z0 := keeps hb z0; replace z1 := keeps hb z1; have n0 : w1.heap.size ≠ w.heap.size := Nat.ne_of_gt HLT.out; have n1 : w.heap.size ≠ w1.heap.size := Nat.ne_of_lt HLT.out; have x0 : ((w3.setCell ⟨w1.heap.size, 0, none⟩ (.int .i64 pq)).setCell ⟨w1.heap.size, 1, none⟩ (.int .i64 u)).cell? ⟨w1.heap.size, 0, none⟩ = some (.int .i64 pq) := (World.cell?_setCell_other _ _ _ _ (by simp)).trans (World.cell?_setCell_same _ _ _ z0); have x1 : ((w3.setCell ⟨w1.heap.size, 0, none⟩ (.int .i64 pq)).setCell ⟨w1.heap.size, 1, none⟩ (.int .i64 u)).cell? ⟨w1.heap.size, 1, none⟩ = some (.int .i64 u) := World.cell?_setCell_same _ _ _ ((World.cell?_setCell_other _ ⟨w1.heap.size, 0, none⟩ _ _ (by simp)).trans z1); have y0 : ((w3.setCell ⟨w1.heap.size, 0, none⟩ (.int .i64 pq)).setCell ⟨w1.heap.size, 1, none⟩ (.int .i64 u)).cell? ⟨w.heap.size, 0, none⟩ = some (.int .u32 pq) := (World.cell?_setCell_other _ _ _ _ (by simp)).trans ((World.cell?_setCell_other _ _ _ _ (by simp)).trans c0); have y1 : ((w3.setCell ⟨w1.heap.size, 0, none⟩ (.int .i64 pq)).setCell ⟨w1.heap.size, 1, none⟩ (.int .i64 u)).cell? ⟨w.heap.size, 1, none⟩ = some (.int .i64 pn) := (World.cell?_setCell_other _ _ _ _ (by simp)).trans ((World.cell?_setCell_other _ _ _ _ (by simp)).trans c1); have HXY := Go.Lib.hid (And.intro (And.intro x0 x1) (And.intro y0 y1)); replace BW := Go.Lib.hid (((BW.out.trans (hb.mono BW.out.size)).setCell (p := ⟨w1.heap.size, 0, none⟩) (Nat.le_of_lt HLT.out) (.int .i64 pq)).setCell (p := ⟨w1.heap.size, 1, none⟩) (Nat.le_of_lt HLT.out) (.int .i64 u)); clear hb tok T2; have T3 := Go.Lib.hid True.intro)
        | (go_at_call 17; have tok := T3.out; refine (CG.out _).mono ?_; rintro e w4 ⟨rfl, hb⟩; replace z0 := keeps hb x0; replace z1 := keeps hb x1; clear x0 x1 y0 y1; have PX := Go.Lib.hid (show Pfxs (w4.alloc (.cells #[] 24)) (.slice (some ⟨w4.heap.size, 0, none⟩) 0 0) (rangeL a b) from by rw [HRL.out]; exact Pfxs.of_own (own_blk2 (Nat.le_refl _) (heap_alloc_new _ _)) oks_nil); have B4 := Go.Lib.hid (below_new w4 (.cells #[] 24)); replace BW := Go.Lib.hid (BW.out.trans (hb.mono BW.out.size)); clear hb tok T3; have T4 := Go.Lib.hid True.intro)
        | (go_at_call 19; have tok := T4.out; refine (CN.out _ (BW.out.trans (B4.out.mono BW.out.size))).mono ?_; rintro e w6 ⟨A6, c6, rfl, ho, hb⟩; have PR := Go.Lib.hid (Pfxs.of_own ho HOK.out); replace PX := Go.Lib.hid (PX.out.keep hb); replace BW := Go.Lib.hid (BW.out.trans ((Pfx.Below.tr B4.out hb).mono BW.out.size)); clear hb ho tok T4; have T6 := Go.Lib.hid True.intro)
        | (go_at_call 7; have tok := T6.out; refine (same_self _ _ _ (rangeL a b) PR.out PX.out).mono ?_; rintro e w7 ⟨rfl, hb⟩; replace BW := Go.Lib.hid (BW.out.trans (hb.mono BW.out.size)); clear hb tok T6; have T7 := Go.Lib.hid True.intro)
        | (go_at_call 15; have tok := T7.out; refine (lives_any _).mono ?_; rintro e w8 ⟨rfl, hb⟩; replace BW := Go.Lib.hid (BW.out.trans (hb.mono BW.out.size)); clear hb tok T7))
      go_ret
      exact ⟨rfl, BW.out⟩
end Go.Proofs.YtgjdpmpbldofpaaDoor.Wlk
