/- The law's Few of attributes. -/
import Derived.Test.YtlhdjdnflpilbaaGreatDoorH21
import Derived.Test.YtlhdjdnflpilbaaGreatDoorH20
namespace Go.Proofs.YtlhdjdnflpilbaaGreatDoor.Att
open Go.RowKit Mem Segm Rise Nums
def fewA (a : At) : At := ⟨a.has, a.origin, Seg.fewS a.path, a.hop, a.med, a.pref, a.aas, a.aid, a.comms.take 260⟩
set_option maxRecDepth 100000 in
set_option maxHeartbeats 8000000 in
theorem few8 (h o : Int) (vp vc : Value) (hp md pr ag ai : Nat) (p : List Piece) (cm : List Nat) (w : World) (hP : Segs w vp p) (hC : U32s w vc cm) :
  Calls Tryz.prog 19 #[.agg #[.int .i64 h, .int .i64 o, vp, .int .u32 hp, .int .u32 md, .int .u32 pr, .int .u32 ag, .int .u32 ai, vc]] w (fun e w' => ∃ vq vs, e = .returned (.agg #[.int .i64 h, .int .i64 o, vq, .int .u32 hp, .int .u32 md, .int .u32 pr, .int .u32 ag, .int .u32 ai, vs]) ∧
   OwnSegsF 117 w.heap.size w.heap.size w' vq (Seg.fewS p) ∧ w'.ownsRow w.heap.size 24 1 vs (cm.take 260).length ((cm.take 260).map fun n : Nat => Value.int .u32 n) ∧ Below w.heap.size w w') := by
 obtain ⟨pz, hp1⟩ : ∃ pz, pz = Seg.fewS p := ⟨_, rfl⟩
 obtain ⟨cz, hc1⟩ : ∃ cz, cz = cm.take 260 := ⟨_, rfl⟩
 have CP := Go.Lib.hid (fun (W : World) (hb : Below w.heap.size w W) => Seg.fewSegs_anyF vp p W (hP.keep hb))
 have CS := Go.Lib.hid (fun (W : World) (hb : Below w.heap.size w W) => show Calls Tryz.prog 54 #[vc, .int .i64 260] W (Gives32 24 (cm.take 260) W) from few_any vc cm 260 W (hC.keep hb) (by omega))
 rw [← hp1] at CP ⊢
 rw [← hc1] at CS ⊢
 obtain ⟨B1, B2, B3⟩ := two_boxes w 27 (.int .i64 h) (.int .i64 o) vp (.int .u32 hp) (.int .u32 md) (.int .u32 pr) (.int .u32 ag) (.int .u32 ai) vc (.int .i64 0) (.int .i64 0) (.slice none 0 0) (.int .u32 0) (.int .u32 0) (.int .u32 0) (.int .u32 0) (.int .u32 0) (.slice none 0 0)
 have X1 := Go.Lib.hid B1
 have X2 := Go.Lib.hid B2
 have X3 := Go.Lib.hid B3
 clear B1 B2 B3 hp1 hc1 hP hC
 go_enter Tryz.func19, Tryz.ntmps19
 go_wp2
 obtain ⟨W0, hW0⟩ : ∃ W0, W0 = ((w.alloc (.cells #[.int .i64 h, .int .i64 o, vp, .int .u32 hp, .int .u32 md, .int .u32 pr, .int .u32 ag, .int .u32 ai, vc] 27)).alloc (.cells #[.int .i64 0, .int .i64 0, .slice none 0 0, .int .u32 0, .int .u32 0, .int .u32 0, .int .u32 0, .int .u32 0, .slice none 0 0] 27)) := ⟨_, rfl⟩
 have hs0 := Go.Lib.hid (show w.heap.size + 1 + 1 ≤ W0.heap.size by rw [hW0]; simp)
 rw [← hW0] at X1 X2 X3 ⊢
 clear hW0
 obtain ⟨c0, c1, c2, c3, c4, c5, c6, c7, c8⟩ := X1.out.cells; obtain ⟨d0, d1, d2, d3, d4, d5, d6, d7, d8⟩ := X2.out.cells; have f1 := X1.out.free; have f2 := X2.out.free
 have T0 := Go.Lib.hid True.intro
 go_region_with (first
  | (go_at_call 53; refine (CP.out _ X3.out.drew).mono ?_; rintro e x ⟨vq, rfl, hq, hx⟩; obtain ⟨aq, cq, rfl⟩ := hq.form; have HQ := Go.Lib.hid hq; have hx0 := (Below.refl W0.heap.size W0).drew.trans hx; replace X1 := Go.Lib.hid (X1.out.keep hx0); replace X2 := Go.Lib.hid (X2.out.keep hx0); have Y3 := Go.Lib.hid (X3.out.trans (hx0.mono X3.out.size)); have hs1 := Go.Lib.hid (Nat.le_trans hs0.out hx0.size); clear hx hx0 hq; clear c0 c1 c2 c3 c4 c5 c6 c7 c8 d0 d1 d2 d3 d4 d5 d6 d7 d8 f1 f2; obtain ⟨c0, c1, c2, c3, c4, c5, c6, c7, c8⟩ := X1.out.cells; obtain ⟨d0, d1, d2, d3, d4, d5, d6, d7, d8⟩ := X2.out.cells; have f1 := X1.out.free; have f2 := X2.out.free)
  | (go_at_call 54; refine (CS.out _ Y3.out).mono ?_; rintro e y ⟨vs, rfl, hu, hy⟩; obtain ⟨ar, cr, rfl⟩ := own_form hu; have HU := Go.Lib.hid hu; replace X1 := Go.Lib.hid (X1.out.keep hy); replace X2 := Go.Lib.hid (X2.out.keep hy); replace HQ := Go.Lib.hid (HQ.out.keep hy); have Y4 := Go.Lib.hid (Y3.out.trans (hy.mono Y3.out.size)); clear hy hu; clear c0 c1 c2 c3 c4 c5 c6 c7 c8 d0 d1 d2 d3 d4 d5 d6 d7 d8 f1 f2; obtain ⟨c0, c1, c2, c3, c4, c5, c6, c7, c8⟩ := X1.out.cells; obtain ⟨d0, d1, d2, d3, d4, d5, d6, d7, d8⟩ := X2.out.cells; have f1 := X1.out.free; have f2 := X2.out.free))
 all_goals
 ·have Z1 := (X1.out.set2 (.slice aq pz.length cq)).set8 (.slice ar cz.length cr)
  have Z2 := box_far (i := 8) (v := .slice ar cz.length cr) (C := w.heap.size) (box_far (i := 2) (v := .slice aq pz.length cq) (C := w.heap.size) X2.out (by omega)) (by omega)
  have hlw := (Y4.out.setCell (p := ⟨w.heap.size, 2, none⟩) (Nat.le_refl _) (.slice aq pz.length cq)).setCell (p := ⟨w.heap.size, 8, none⟩) (Nat.le_refl _) (.slice ar cz.length cr)
  have HO := Go.Lib.hid (show ∀ k, w.heap.size + 1 ≤ k → ((y.setCell ⟨w.heap.size, 2, none⟩ (.slice aq pz.length cq)).setCell ⟨w.heap.size, 8, none⟩ (.slice ar cz.length cr)).heap[k]? = y.heap[k]? from fun k hk => (off_set _ (n := w.heap.size + 1) (by omega) k hk).trans (off_set _ (n := w.heap.size + 1) (by omega) k hk))
  have HZ := Go.Lib.hid (show y.heap.size ≤ ((y.setCell ⟨w.heap.size, 2, none⟩ (.slice aq pz.length cq)).setCell ⟨w.heap.size, 8, none⟩ (.slice ar cz.length cr)).heap.size by simp)
  obtain ⟨Y, hY⟩ : ∃ Y, Y = (y.setCell ⟨w.heap.size, 2, none⟩ (.slice aq pz.length cq)).setCell ⟨w.heap.size, 8, none⟩ (.slice ar cz.length cr) := ⟨_, rfl⟩
  rw [← hY] at Z1 Z2 hlw HO HZ ⊢
  clear hY c0 c1 c2 c3 c4 c5 c6 c7 c8 d0 d1 d2 d3 d4 d5 d6 d7 d8 f1 f2
  have HLW := Go.Lib.hid hlw
  clear hlw
  obtain ⟨c0, c1, c2, c3, c4, c5, c6, c7, c8⟩ := Z1.cells
  obtain ⟨d0, d1, d2, d3, d4, d5, d6, d7, d8⟩ := Z2.cells
  have f2 := Z2.free
  have B9 := (((((((((Z2.set0 (.int .i64 h)).set1 (.int .i64 o)).set2 (.slice aq pz.length cq)).set3 (.int .u32 hp)).set4 (.int .u32 md)).set5 (.int .u32 pr)).set6 (.int .u32 ag)).set7 (.int .u32 ai)).set8 (.slice ar cz.length cr))
  obtain ⟨r0, r1, r2, r3, r4, r5, r6, r7, r8⟩ := B9.cells
  go_wp2
  (try simp only [Exit.inBlock, Exit.then])
  refine bodyPost_ret (v := .agg #[.int .i64 h, .int .i64 o, .slice aq pz.length cq, .int .u32 hp, .int .u32 md, .int .u32 pr, .int .u32 ag, .int .u32 ai, .slice ar cz.length cr]) (by simp [results, Tryz.results19, go_sem, r0, r1, r2, r3, r4, r5, r6, r7, r8]) rfl ?_
  have hlo := nine_low HLW.out (w.heap.size + 1) (by omega) (.int .i64 h) (.int .i64 o) (.slice aq pz.length cq) (.int .u32 hp) (.int .u32 md) (.int .u32 pr) (.int .u32 ag) (.int .u32 ai) (.slice ar cz.length cr)
  have hk := nine_off Y (w.heap.size + 1) (.int .i64 h) (.int .i64 o) (.slice aq pz.length cq) (.int .u32 hp) (.int .u32 md) (.int .u32 pr) (.int .u32 ag) (.int .u32 ai) (.slice ar cz.length cr)
  refine ⟨_, _, rfl, ?_, ?_, hlo⟩
  ·exact OwnSegsF.lower (segs_off (n := w.heap.size + 1 + 1) (HQ.out.lower hs0.out hs0.out) (fun k h => (hk.1 k (by omega)).trans (HO.out k (by omega))) (Nat.le_trans HZ.out hk.2)) (by omega) (by omega)
  ·exact own_base (own_off (n := w.heap.size + 1 + 1) (own_base HU.out hs1.out) (fun k h => (hk.1 k (by omega)).trans (HO.out k (by omega)))) (by omega)
theorem few8_any (v : Value) (a : At) (w : World) (hv : Attrs w v a) : Calls Tryz.prog 19 #[v] w (GivesA (fewA a) w) := by
 obtain ⟨hok, vp, vc, rfl, hP, hC⟩ := hv
 have hC32 : ∀ y ∈ a.comms, y < 4294967296 := let ⟨_, _, _, _, _, h, _⟩ := hC.open_; h
 refine (few8 a.has a.origin vp vc a.hop a.med a.pref a.aas a.aid a.path a.comms w hP hC).mono ?_
 rintro e w' ⟨vq, vs, rfl, h1, h2, h3⟩
 exact ⟨_, vq, vs, rfl, rfl, hok, h1, h2, fun y hy => hC32 y (List.mem_of_mem_take hy), h3⟩
end Go.Proofs.YtlhdjdnflpilbaaGreatDoor.Att
