/- The reference's Same, of attributes. What is told of ways, as it lies in memory: prefixes that are gone, attributes, prefixes that are here. It speaks of no function of the program. The program's Same, of attributes. -/
import Derived.Test.YtlhdjdnflpilbaaGreatDoorH03
import Derived.Test.YtlhdjdnflpilbaaGreatDoorH05
import Derived.Test.YtlhdjdnflpilbaaGreatDoorH02
import Derived.BigQuiet
import Derived.BigRegion
import Derived.RegionTactic
import Derived.Test.YtlhdjdnflpilbaaGreatDoorH01
import Derived.Lib.SmallJoins
namespace Go.Proofs.YtlhdjdnflpilbaaGreatDoor.Att
open Go.RowKit Mem Segm Oct
theorem keeps {W w1 : World} (hb : Below W.heap.size W w1) {a : Addr} {v : Value} (h : W.cell? a = some v) : w1.cell? a = some v :=
 (hb.cell (block_lt_of_cell h)).trans h
def sameA (a b : At) : Bool := decide (a.has = b.has) && decide (a.origin = b.origin) && decide (a.path = b.path) && decide (a.hop = b.hop) && decide (a.med = b.med) && decide (a.pref = b.pref) && decide (a.aas = b.aas) && decide (a.aid = b.aid) && decide (a.comms = b.comms)
theorem sameA_iff {a b : At} : sameA a b = true ↔ a = b := by
 obtain ⟨a0, a1, a2, a3, a4, a5, a6, a7, a8⟩ := a
 obtain ⟨b0, b1, b2, b3, b4, b5, b6, b7, b8⟩ := b
 simp [sameA, and_assoc]
theorem two_boxes (w : World) (t : TypeId) (x0 x1 x2 x3 x4 x5 x6 x7 x8 y0 y1 y2 y3 y4 y5 y6 y7 y8 : Value) :
  Box9 ((w.alloc (.cells #[x0, x1, x2, x3, x4, x5, x6, x7, x8] t)).alloc (.cells #[y0, y1, y2, y3, y4, y5, y6, y7, y8] t)) w.heap.size t x0 x1 x2 x3 x4 x5 x6 x7 x8 ∧
  Box9 ((w.alloc (.cells #[x0, x1, x2, x3, x4, x5, x6, x7, x8] t)).alloc (.cells #[y0, y1, y2, y3, y4, y5, y6, y7, y8] t)) (w.heap.size + 1) t y0 y1 y2 y3 y4 y5 y6 y7 y8 ∧
  Below w.heap.size w ((w.alloc (.cells #[x0, x1, x2, x3, x4, x5, x6, x7, x8] t)).alloc (.cells #[y0, y1, y2, y3, y4, y5, y6, y7, y8] t)) := by
 have h1 := (Box9.new w t x0 x1 x2 x3 x4 x5 x6 x7 x8).keep ((Below.refl _ _).alloc (Nat.le_refl _) (.cells #[y0, y1, y2, y3, y4, y5, y6, y7, y8] t))
 have h2 := Box9.new (w.alloc (.cells #[x0, x1, x2, x3, x4, x5, x6, x7, x8] t)) t y0 y1 y2 y3 y4 y5 y6 y7 y8
 have e : (w.alloc (.cells #[x0, x1, x2, x3, x4, x5, x6, x7, x8] t)).heap.size = w.heap.size + 1 := by simp
 rw [e] at h2
 exact ⟨h1, h2, ((Below.refl _ w).alloc (Nat.le_refl _) _).alloc (by simp) _⟩
set_option maxHeartbeats 2000000 in
theorem same8_0 (h o h' o' : Int) (hp md pr ag ai hp' md' pr' ag' ai' : Nat) (vp vp' vcm vcm' : Value) (w : World) (hne : h ≠ h') :
  Calls Tryz.prog 30 #[.agg #[.int .i64 h, .int .i64 o, vp, .int .u32 hp, .int .u32 md, .int .u32 pr, .int .u32 ag, .int .u32 ai, vcm], .agg #[.int .i64 h', .int .i64 o', vp', .int .u32 (hp' : Nat), .int .u32 (md' : Nat), .int .u32 (pr' : Nat), .int .u32 (ag' : Nat), .int .u32 (ai' : Nat), vcm']] w (Tells (.bool false) w) := by
 obtain ⟨b1, b2, hb⟩ := two_boxes w 27 (.int .i64 h) (.int .i64 o) vp (.int .u32 hp) (.int .u32 md) (.int .u32 pr) (.int .u32 ag) (.int .u32 ai) vcm (.int .i64 h') (.int .i64 o') vp' (.int .u32 (hp' : Nat)) (.int .u32 (md' : Nat)) (.int .u32 (pr' : Nat)) (.int .u32 (ag' : Nat)) (.int .u32 (ai' : Nat)) vcm'
 obtain ⟨c0, c1, c2, c3, c4, c5, c6, c7, c8⟩ := b1.cells
 obtain ⟨d0, d1, d2, d3, d4, d5, d6, d7, d8⟩ := b2.cells
 have y0 : (h == h') = false := beq_eq_false_iff_ne.2 hne
 have HB := Go.Lib.hid hb
 clear hb b1 b2 hne
 go_enter Tryz.func30, Tryz.ntmps30
 go_wp2
 go_ret
 exact ⟨rfl, HB.out⟩
set_option maxHeartbeats 2000000 in
theorem same8_1 (h o o' : Int) (hp md pr ag ai hp' md' pr' ag' ai' : Nat) (vp vp' vcm vcm' : Value) (w : World) (hne : o ≠ o') :
  Calls Tryz.prog 30 #[.agg #[.int .i64 h, .int .i64 o, vp, .int .u32 hp, .int .u32 md, .int .u32 pr, .int .u32 ag, .int .u32 ai, vcm], .agg #[.int .i64 h, .int .i64 o', vp', .int .u32 (hp' : Nat), .int .u32 (md' : Nat), .int .u32 (pr' : Nat), .int .u32 (ag' : Nat), .int .u32 (ai' : Nat), vcm']] w (Tells (.bool false) w) := by
 obtain ⟨b1, b2, hb⟩ := two_boxes w 27 (.int .i64 h) (.int .i64 o) vp (.int .u32 hp) (.int .u32 md) (.int .u32 pr) (.int .u32 ag) (.int .u32 ai) vcm (.int .i64 h) (.int .i64 o') vp' (.int .u32 (hp' : Nat)) (.int .u32 (md' : Nat)) (.int .u32 (pr' : Nat)) (.int .u32 (ag' : Nat)) (.int .u32 (ai' : Nat)) vcm'
 obtain ⟨c0, c1, c2, c3, c4, c5, c6, c7, c8⟩ := b1.cells
 obtain ⟨d0, d1, d2, d3, d4, d5, d6, d7, d8⟩ := b2.cells
 have y0 : (o == o') = false := beq_eq_false_iff_ne.2 hne
 have HB := Go.Lib.hid hb
 clear hb b1 b2 hne
 go_enter Tryz.func30, Tryz.ntmps30
 go_wp2
 go_ret
 exact ⟨rfl, HB.out⟩
set_option maxHeartbeats 2000000 in
theorem same8_2 (h o : Int) (hp md pr ag ai hp' md' pr' ag' ai' : Nat) (p p' : List Piece) (vp vp' vcm vcm' : Value) (w : World) (h1 : Segs w vp p) (h2 : Segs w vp' p') (hne : p ≠ p') :
  Calls Tryz.prog 30 #[.agg #[.int .i64 h, .int .i64 o, vp, .int .u32 hp, .int .u32 md, .int .u32 pr, .int .u32 ag, .int .u32 ai, vcm], .agg #[.int .i64 h, .int .i64 o, vp', .int .u32 (hp' : Nat), .int .u32 (md' : Nat), .int .u32 (pr' : Nat), .int .u32 (ag' : Nat), .int .u32 (ai' : Nat), vcm']] w (Tells (.bool false) w) := by
 obtain ⟨b1, b2, hb⟩ := two_boxes w 27 (.int .i64 h) (.int .i64 o) vp (.int .u32 hp) (.int .u32 md) (.int .u32 pr) (.int .u32 ag) (.int .u32 ai) vcm (.int .i64 h) (.int .i64 o) vp' (.int .u32 (hp' : Nat)) (.int .u32 (md' : Nat)) (.int .u32 (pr' : Nat)) (.int .u32 (ag' : Nat)) (.int .u32 (ai' : Nat)) vcm'
 have CP := Go.Lib.hid (fun (W : World) (h : Below w.heap.size w W) => show Calls Tryz.prog 74 #[vp, vp'] W (Tells (.bool false) W) from by have h9 := Seg.same_any vp vp' p p' W (h1.keep h) (h2.keep h); rw [show decide (p = p') = false from decide_eq_false hne] at h9; exact h9)
 obtain ⟨c0, c1, c2, c3, c4, c5, c6, c7, c8⟩ := b1.cells
 obtain ⟨d0, d1, d2, d3, d4, d5, d6, d7, d8⟩ := b2.cells
 have HB := Go.Lib.hid hb
 clear hb b1 b2 h1 h2 hne
 go_enter Tryz.func30, Tryz.ntmps30
 go_wp2_with (go_at_call 74; refine (CP.out _ HB.out).mono ?_; rintro e x ⟨rfl, hx⟩; replace c3 := keeps hx c3; replace d3 := keeps hx d3; replace c4 := keeps hx c4; replace d4 := keeps hx d4; replace c5 := keeps hx c5; replace d5 := keeps hx d5; replace c6 := keeps hx c6; replace d6 := keeps hx d6; replace c7 := keeps hx c7; replace d7 := keeps hx d7; replace c8 := keeps hx c8; replace d8 := keeps hx d8; replace HB := Go.Lib.hid (HB.out.trans (hx.mono HB.out.size)); clear hx)
 go_ret
 exact ⟨rfl, HB.out⟩
set_option maxHeartbeats 2000000 in
theorem same8_3 (h o : Int) (hp md pr ag ai hp' md' pr' ag' ai' : Nat) (p : List Piece) (vp vp' vcm vcm' : Value) (w : World) (h1 : Segs w vp p) (h2 : Segs w vp' p) (hne : hp ≠ hp') :
  Calls Tryz.prog 30 #[.agg #[.int .i64 h, .int .i64 o, vp, .int .u32 hp, .int .u32 md, .int .u32 pr, .int .u32 ag, .int .u32 ai, vcm], .agg #[.int .i64 h, .int .i64 o, vp', .int .u32 (hp' : Nat), .int .u32 (md' : Nat), .int .u32 (pr' : Nat), .int .u32 (ag' : Nat), .int .u32 (ai' : Nat), vcm']] w (Tells (.bool false) w) := by
 obtain ⟨b1, b2, hb⟩ := two_boxes w 27 (.int .i64 h) (.int .i64 o) vp (.int .u32 hp) (.int .u32 md) (.int .u32 pr) (.int .u32 ag) (.int .u32 ai) vcm (.int .i64 h) (.int .i64 o) vp' (.int .u32 (hp' : Nat)) (.int .u32 (md' : Nat)) (.int .u32 (pr' : Nat)) (.int .u32 (ag' : Nat)) (.int .u32 (ai' : Nat)) vcm'
 have CP := Go.Lib.hid (fun (W : World) (h : Below w.heap.size w W) => show Calls Tryz.prog 74 #[vp, vp'] W (Tells (.bool true) W) from by have h9 := Seg.same_any vp vp' p p W (h1.keep h) (h2.keep h); rw [show decide (p = p) = true from decide_eq_true rfl] at h9; exact h9)
 obtain ⟨c0, c1, c2, c3, c4, c5, c6, c7, c8⟩ := b1.cells
 obtain ⟨d0, d1, d2, d3, d4, d5, d6, d7, d8⟩ := b2.cells
 have y0 : ((hp : Int) == (hp' : Int)) = false := beq_eq_false_iff_ne.2 (fun e => hne (Int.ofNat.inj e))
 have HB := Go.Lib.hid hb
 clear hb b1 b2 h1 h2 hne
 go_enter Tryz.func30, Tryz.ntmps30
 go_wp2_with (go_at_call 74; refine (CP.out _ HB.out).mono ?_; rintro e x ⟨rfl, hx⟩; replace c3 := keeps hx c3; replace d3 := keeps hx d3; replace c4 := keeps hx c4; replace d4 := keeps hx d4; replace c5 := keeps hx c5; replace d5 := keeps hx d5; replace c6 := keeps hx c6; replace d6 := keeps hx d6; replace c7 := keeps hx c7; replace d7 := keeps hx d7; replace c8 := keeps hx c8; replace d8 := keeps hx d8; replace HB := Go.Lib.hid (HB.out.trans (hx.mono HB.out.size)); clear hx)
 go_ret
 exact ⟨rfl, HB.out⟩
set_option maxHeartbeats 2000000 in
theorem same8_4 (h o : Int) (hp md pr ag ai md' pr' ag' ai' : Nat) (p : List Piece) (vp vp' vcm vcm' : Value) (w : World) (h1 : Segs w vp p) (h2 : Segs w vp' p) (hne : md ≠ md') :
  Calls Tryz.prog 30 #[.agg #[.int .i64 h, .int .i64 o, vp, .int .u32 hp, .int .u32 md, .int .u32 pr, .int .u32 ag, .int .u32 ai, vcm], .agg #[.int .i64 h, .int .i64 o, vp', .int .u32 hp, .int .u32 (md' : Nat), .int .u32 (pr' : Nat), .int .u32 (ag' : Nat), .int .u32 (ai' : Nat), vcm']] w (Tells (.bool false) w) := by
 obtain ⟨b1, b2, hb⟩ := two_boxes w 27 (.int .i64 h) (.int .i64 o) vp (.int .u32 hp) (.int .u32 md) (.int .u32 pr) (.int .u32 ag) (.int .u32 ai) vcm (.int .i64 h) (.int .i64 o) vp' (.int .u32 hp) (.int .u32 (md' : Nat)) (.int .u32 (pr' : Nat)) (.int .u32 (ag' : Nat)) (.int .u32 (ai' : Nat)) vcm'
 have CP := Go.Lib.hid (fun (W : World) (h : Below w.heap.size w W) => show Calls Tryz.prog 74 #[vp, vp'] W (Tells (.bool true) W) from by have h9 := Seg.same_any vp vp' p p W (h1.keep h) (h2.keep h); rw [show decide (p = p) = true from decide_eq_true rfl] at h9; exact h9)
 obtain ⟨c0, c1, c2, c3, c4, c5, c6, c7, c8⟩ := b1.cells
 obtain ⟨d0, d1, d2, d3, d4, d5, d6, d7, d8⟩ := b2.cells
 have y0 : ((md : Int) == (md' : Int)) = false := beq_eq_false_iff_ne.2 (fun e => hne (Int.ofNat.inj e))
 have HB := Go.Lib.hid hb
 clear hb b1 b2 h1 h2 hne
 go_enter Tryz.func30, Tryz.ntmps30
 go_wp2_with (go_at_call 74; refine (CP.out _ HB.out).mono ?_; rintro e x ⟨rfl, hx⟩; replace c3 := keeps hx c3; replace d3 := keeps hx d3; replace c4 := keeps hx c4; replace d4 := keeps hx d4; replace c5 := keeps hx c5; replace d5 := keeps hx d5; replace c6 := keeps hx c6; replace d6 := keeps hx d6; replace c7 := keeps hx c7; replace d7 := keeps hx d7; replace c8 := keeps hx c8; replace d8 := keeps hx d8; replace HB := Go.Lib.hid (HB.out.trans (hx.mono HB.out.size)); clear hx)
 go_ret
 exact ⟨rfl, HB.out⟩
set_option maxHeartbeats 2000000 in
theorem same8_5 (h o : Int) (hp md pr ag ai pr' ag' ai' : Nat) (p : List Piece) (vp vp' vcm vcm' : Value) (w : World) (h1 : Segs w vp p) (h2 : Segs w vp' p) (hne : pr ≠ pr') :
  Calls Tryz.prog 30 #[.agg #[.int .i64 h, .int .i64 o, vp, .int .u32 hp, .int .u32 md, .int .u32 pr, .int .u32 ag, .int .u32 ai, vcm], .agg #[.int .i64 h, .int .i64 o, vp', .int .u32 hp, .int .u32 md, .int .u32 (pr' : Nat), .int .u32 (ag' : Nat), .int .u32 (ai' : Nat), vcm']] w (Tells (.bool false) w) := by
 obtain ⟨b1, b2, hb⟩ := two_boxes w 27 (.int .i64 h) (.int .i64 o) vp (.int .u32 hp) (.int .u32 md) (.int .u32 pr) (.int .u32 ag) (.int .u32 ai) vcm (.int .i64 h) (.int .i64 o) vp' (.int .u32 hp) (.int .u32 md) (.int .u32 (pr' : Nat)) (.int .u32 (ag' : Nat)) (.int .u32 (ai' : Nat)) vcm'
 have CP := Go.Lib.hid (fun (W : World) (h : Below w.heap.size w W) => show Calls Tryz.prog 74 #[vp, vp'] W (Tells (.bool true) W) from by have h9 := Seg.same_any vp vp' p p W (h1.keep h) (h2.keep h); rw [show decide (p = p) = true from decide_eq_true rfl] at h9; exact h9)
 obtain ⟨c0, c1, c2, c3, c4, c5, c6, c7, c8⟩ := b1.cells
 obtain ⟨d0, d1, d2, d3, d4, d5, d6, d7, d8⟩ := b2.cells
 have y0 : ((pr : Int) == (pr' : Int)) = false := beq_eq_false_iff_ne.2 (fun e => hne (Int.ofNat.inj e))
 have HB := Go.Lib.hid hb
 clear hb b1 b2 h1 h2 hne
 go_enter Tryz.func30, Tryz.ntmps30
 go_wp2_with (go_at_call 74; refine (CP.out _ HB.out).mono ?_; rintro e x ⟨rfl, hx⟩; replace c3 := keeps hx c3; replace d3 := keeps hx d3; replace c4 := keeps hx c4; replace d4 := keeps hx d4; replace c5 := keeps hx c5; replace d5 := keeps hx d5; replace c6 := keeps hx c6; replace d6 := keeps hx d6; replace c7 := keeps hx c7; replace d7 := keeps hx d7; replace c8 := keeps hx c8; replace d8 := keeps hx d8; replace HB := Go.Lib.hid (HB.out.trans (hx.mono HB.out.size)); clear hx)
 go_ret
 exact ⟨rfl, HB.out⟩
set_option maxHeartbeats 2000000 in
theorem same8_6 (h o : Int) (hp md pr ag ai ag' ai' : Nat) (p : List Piece) (vp vp' vcm vcm' : Value) (w : World) (h1 : Segs w vp p) (h2 : Segs w vp' p) (hne : ag ≠ ag') :
  Calls Tryz.prog 30 #[.agg #[.int .i64 h, .int .i64 o, vp, .int .u32 hp, .int .u32 md, .int .u32 pr, .int .u32 ag, .int .u32 ai, vcm], .agg #[.int .i64 h, .int .i64 o, vp', .int .u32 hp, .int .u32 md, .int .u32 pr, .int .u32 (ag' : Nat), .int .u32 (ai' : Nat), vcm']] w (Tells (.bool false) w) := by
 obtain ⟨b1, b2, hb⟩ := two_boxes w 27 (.int .i64 h) (.int .i64 o) vp (.int .u32 hp) (.int .u32 md) (.int .u32 pr) (.int .u32 ag) (.int .u32 ai) vcm (.int .i64 h) (.int .i64 o) vp' (.int .u32 hp) (.int .u32 md) (.int .u32 pr) (.int .u32 (ag' : Nat)) (.int .u32 (ai' : Nat)) vcm'
 have CP := Go.Lib.hid (fun (W : World) (h : Below w.heap.size w W) => show Calls Tryz.prog 74 #[vp, vp'] W (Tells (.bool true) W) from by have h9 := Seg.same_any vp vp' p p W (h1.keep h) (h2.keep h); rw [show decide (p = p) = true from decide_eq_true rfl] at h9; exact h9)
 obtain ⟨c0, c1, c2, c3, c4, c5, c6, c7, c8⟩ := b1.cells
 obtain ⟨d0, d1, d2, d3, d4, d5, d6, d7, d8⟩ := b2.cells
 have y0 : ((ag : Int) == (ag' : Int)) = false := beq_eq_false_iff_ne.2 (fun e => hne (Int.ofNat.inj e))
 have HB := Go.Lib.hid hb
 clear hb b1 b2 h1 h2 hne
 go_enter Tryz.func30, Tryz.ntmps30
 go_wp2_with (go_at_call 74; refine (CP.out _ HB.out).mono ?_; rintro e x ⟨rfl, hx⟩; replace c3 := keeps hx c3; replace d3 := keeps hx d3; replace c4 := keeps hx c4; replace d4 := keeps hx d4; replace c5 := keeps hx c5; replace d5 := keeps hx d5; replace c6 := keeps hx c6; replace d6 := keeps hx d6; replace c7 := keeps hx c7; replace d7 := keeps hx d7; replace c8 := keeps hx c8; replace d8 := keeps hx d8; replace HB := Go.Lib.hid (HB.out.trans (hx.mono HB.out.size)); clear hx)
 go_ret
 exact ⟨rfl, HB.out⟩
set_option maxHeartbeats 2000000 in
theorem same8_7 (h o : Int) (hp md pr ag ai ai' : Nat) (p : List Piece) (vp vp' vcm vcm' : Value) (w : World) (h1 : Segs w vp p) (h2 : Segs w vp' p) (hne : ai ≠ ai') :
  Calls Tryz.prog 30 #[.agg #[.int .i64 h, .int .i64 o, vp, .int .u32 hp, .int .u32 md, .int .u32 pr, .int .u32 ag, .int .u32 ai, vcm], .agg #[.int .i64 h, .int .i64 o, vp', .int .u32 hp, .int .u32 md, .int .u32 pr, .int .u32 ag, .int .u32 (ai' : Nat), vcm']] w (Tells (.bool false) w) := by
 obtain ⟨b1, b2, hb⟩ := two_boxes w 27 (.int .i64 h) (.int .i64 o) vp (.int .u32 hp) (.int .u32 md) (.int .u32 pr) (.int .u32 ag) (.int .u32 ai) vcm (.int .i64 h) (.int .i64 o) vp' (.int .u32 hp) (.int .u32 md) (.int .u32 pr) (.int .u32 ag) (.int .u32 (ai' : Nat)) vcm'
 have CP := Go.Lib.hid (fun (W : World) (h : Below w.heap.size w W) => show Calls Tryz.prog 74 #[vp, vp'] W (Tells (.bool true) W) from by have h9 := Seg.same_any vp vp' p p W (h1.keep h) (h2.keep h); rw [show decide (p = p) = true from decide_eq_true rfl] at h9; exact h9)
 obtain ⟨c0, c1, c2, c3, c4, c5, c6, c7, c8⟩ := b1.cells
 obtain ⟨d0, d1, d2, d3, d4, d5, d6, d7, d8⟩ := b2.cells
 have y0 : ((ai : Int) == (ai' : Int)) = false := beq_eq_false_iff_ne.2 (fun e => hne (Int.ofNat.inj e))
 have HB := Go.Lib.hid hb
 clear hb b1 b2 h1 h2 hne
 go_enter Tryz.func30, Tryz.ntmps30
 go_wp2_with (go_at_call 74; refine (CP.out _ HB.out).mono ?_; rintro e x ⟨rfl, hx⟩; replace c3 := keeps hx c3; replace d3 := keeps hx d3; replace c4 := keeps hx c4; replace d4 := keeps hx d4; replace c5 := keeps hx c5; replace d5 := keeps hx d5; replace c6 := keeps hx c6; replace d6 := keeps hx d6; replace c7 := keeps hx c7; replace d7 := keeps hx d7; replace c8 := keeps hx c8; replace d8 := keeps hx d8; replace HB := Go.Lib.hid (HB.out.trans (hx.mono HB.out.size)); clear hx)
 go_ret
 exact ⟨rfl, HB.out⟩
set_option maxHeartbeats 2000000 in
theorem same8_8 (h o : Int) (hp md pr ag ai : Nat) (p : List Piece) (cm cm' : List Nat) (vp vp' vcm vcm' : Value) (w : World) (h1 : Segs w vp p) (h2 : Segs w vp' p) (h3 : U32s w vcm cm) (h4 : U32s w vcm' cm') (hne : cm ≠ cm') :
  Calls Tryz.prog 30 #[.agg #[.int .i64 h, .int .i64 o, vp, .int .u32 hp, .int .u32 md, .int .u32 pr, .int .u32 ag, .int .u32 ai, vcm], .agg #[.int .i64 h, .int .i64 o, vp', .int .u32 hp, .int .u32 md, .int .u32 pr, .int .u32 ag, .int .u32 ai, vcm']] w (Tells (.bool false) w) := by
 obtain ⟨b1, b2, hb⟩ := two_boxes w 27 (.int .i64 h) (.int .i64 o) vp (.int .u32 hp) (.int .u32 md) (.int .u32 pr) (.int .u32 ag) (.int .u32 ai) vcm (.int .i64 h) (.int .i64 o) vp' (.int .u32 hp) (.int .u32 md) (.int .u32 pr) (.int .u32 ag) (.int .u32 ai) vcm'
 have CP := Go.Lib.hid (fun (W : World) (h : Below w.heap.size w W) => show Calls Tryz.prog 74 #[vp, vp'] W (Tells (.bool true) W) from by have h9 := Seg.same_any vp vp' p p W (h1.keep h) (h2.keep h); rw [show decide (p = p) = true from decide_eq_true rfl] at h9; exact h9)
 have CN := Go.Lib.hid (fun (W : World) (h : Below w.heap.size w W) => show Calls Tryz.prog 75 #[vcm, vcm'] W (Tells (.bool false) W) from by have h9 := Nums.refSame_any vcm vcm' cm cm' W (h3.keep h) (h4.keep h); rw [show decide (cm = cm') = false from decide_eq_false hne] at h9; exact h9)
 obtain ⟨c0, c1, c2, c3, c4, c5, c6, c7, c8⟩ := b1.cells
 obtain ⟨d0, d1, d2, d3, d4, d5, d6, d7, d8⟩ := b2.cells
 have HB := Go.Lib.hid hb
 clear hb b1 b2 h1 h2 h3 h4 hne
 go_enter Tryz.func30, Tryz.ntmps30
 go_wp2_with (first
  | (go_at_call 74; refine (CP.out _ HB.out).mono ?_; rintro e x ⟨rfl, hx⟩; replace c3 := keeps hx c3; replace d3 := keeps hx d3; replace c4 := keeps hx c4; replace d4 := keeps hx d4; replace c5 := keeps hx c5; replace d5 := keeps hx d5; replace c6 := keeps hx c6; replace d6 := keeps hx d6; replace c7 := keeps hx c7; replace d7 := keeps hx d7; replace c8 := keeps hx c8; replace d8 := keeps hx d8; replace HB := Go.Lib.hid (HB.out.trans (hx.mono HB.out.size)); clear hx)
  | (go_at_call 75; refine (CN.out _ HB.out).mono ?_; rintro e x ⟨rfl, hx⟩; replace HB := Go.Lib.hid (HB.out.trans (hx.mono HB.out.size)); clear hx))
 go_ret
 exact ⟨rfl, HB.out⟩
set_option maxHeartbeats 2000000 in
theorem same8_9 (h o : Int) (hp md pr ag ai : Nat) (p : List Piece) (cm : List Nat) (vp vp' vcm vcm' : Value) (w : World) (h1 : Segs w vp p) (h2 : Segs w vp' p) (h3 : U32s w vcm cm) (h4 : U32s w vcm' cm) :
  Calls Tryz.prog 30 #[.agg #[.int .i64 h, .int .i64 o, vp, .int .u32 hp, .int .u32 md, .int .u32 pr, .int .u32 ag, .int .u32 ai, vcm], .agg #[.int .i64 h, .int .i64 o, vp', .int .u32 hp, .int .u32 md, .int .u32 pr, .int .u32 ag, .int .u32 ai, vcm']] w (Tells (.bool true) w) := by
 obtain ⟨b1, b2, hb⟩ := two_boxes w 27 (.int .i64 h) (.int .i64 o) vp (.int .u32 hp) (.int .u32 md) (.int .u32 pr) (.int .u32 ag) (.int .u32 ai) vcm (.int .i64 h) (.int .i64 o) vp' (.int .u32 hp) (.int .u32 md) (.int .u32 pr) (.int .u32 ag) (.int .u32 ai) vcm'
 have CP := Go.Lib.hid (fun (W : World) (h : Below w.heap.size w W) => show Calls Tryz.prog 74 #[vp, vp'] W (Tells (.bool true) W) from by have h9 := Seg.same_any vp vp' p p W (h1.keep h) (h2.keep h); rw [show decide (p = p) = true from decide_eq_true rfl] at h9; exact h9)
 have CN := Go.Lib.hid (fun (W : World) (h : Below w.heap.size w W) => show Calls Tryz.prog 75 #[vcm, vcm'] W (Tells (.bool true) W) from by have h9 := Nums.refSame_any vcm vcm' cm cm W (h3.keep h) (h4.keep h); rw [show decide (cm = cm) = true from decide_eq_true rfl] at h9; exact h9)
 obtain ⟨c0, c1, c2, c3, c4, c5, c6, c7, c8⟩ := b1.cells
 obtain ⟨d0, d1, d2, d3, d4, d5, d6, d7, d8⟩ := b2.cells
 have HB := Go.Lib.hid hb
 clear hb b1 b2 h1 h2 h3 h4
 go_enter Tryz.func30, Tryz.ntmps30
 go_wp2_with (first
  | (go_at_call 74; refine (CP.out _ HB.out).mono ?_; rintro e x ⟨rfl, hx⟩; replace c3 := keeps hx c3; replace d3 := keeps hx d3; replace c4 := keeps hx c4; replace d4 := keeps hx d4; replace c5 := keeps hx c5; replace d5 := keeps hx d5; replace c6 := keeps hx c6; replace d6 := keeps hx d6; replace c7 := keeps hx c7; replace d7 := keeps hx d7; replace c8 := keeps hx c8; replace d8 := keeps hx d8; replace HB := Go.Lib.hid (HB.out.trans (hx.mono HB.out.size)); clear hx)
  | (go_at_call 75; refine (CN.out _ HB.out).mono ?_; rintro e x ⟨rfl, hx⟩; replace HB := Go.Lib.hid (HB.out.trans (hx.mono HB.out.size)); clear hx))
 go_ret
 exact ⟨rfl, HB.out⟩
theorem refSame8 (va vb : Value) (a b : At) (w : World) (ha : Attrs w va a) (hb : Attrs w vb b) : Calls Tryz.prog 30 #[va, vb] w (Tells (.bool (sameA a b)) w) := by
 obtain ⟨_, vp, vc, rfl, hp, hc⟩ := ha
 obtain ⟨_, vp', vc', rfl, hp', hc'⟩ := hb
 obtain ⟨h, o, p, hp0, md, pr, ag, ai, cm⟩ := a
 obtain ⟨h', o', p', hp0', md', pr', ag', ai', cm'⟩ := b
 dsimp only at hp hc hp' hc'
 have key : ∀ r : Bool, sameA ⟨h, o, p, hp0, md, pr, ag, ai, cm⟩ ⟨h', o', p', hp0', md', pr', ag', ai', cm'⟩ = r → Calls Tryz.prog 30 #[.agg #[.int .i64 h, .int .i64 o, vp, .int .u32 hp0, .int .u32 md, .int .u32 pr, .int .u32 ag, .int .u32 ai, vc], .agg #[.int .i64 h', .int .i64 o', vp', .int .u32 hp0', .int .u32 md', .int .u32 pr', .int .u32 ag', .int .u32 ai', vc']] w (Tells (.bool r) w) := by
  intro r hr
  by_cases e0 : h = h'
  ·subst e0
   by_cases e1 : o = o'
   ·subst e1
    by_cases e2 : p = p'
    ·subst e2
     by_cases e3 : hp0 = hp0'
     ·subst e3
      by_cases e4 : md = md'
      ·subst e4
       by_cases e5 : pr = pr'
       ·subst e5
        by_cases e6 : ag = ag'
        ·subst e6
         by_cases e7 : ai = ai'
         ·subst e7
          by_cases e8 : cm = cm'
          ·subst e8
           have : r = true := by rw [← hr]; simp [sameA]
           subst this
           exact same8_9 h o hp0 md pr ag ai p cm vp vp' vc vc' w hp hp' hc hc'
          ·have : r = false := by rw [← hr]; simp [sameA, e8]
           subst this
           exact same8_8 h o hp0 md pr ag ai p cm cm' vp vp' vc vc' w hp hp' hc hc' e8
         ·have : r = false := by rw [← hr]; simp [sameA, e7]
          subst this
          exact same8_7 h o hp0 md pr ag ai ai' p vp vp' vc vc' w hp hp' e7
        ·have : r = false := by rw [← hr]; simp [sameA, e6]
         subst this
         exact same8_6 h o hp0 md pr ag ai ag' ai' p vp vp' vc vc' w hp hp' e6
       ·have : r = false := by rw [← hr]; simp [sameA, e5]
        subst this
        exact same8_5 h o hp0 md pr ag ai pr' ag' ai' p vp vp' vc vc' w hp hp' e5
      ·have : r = false := by rw [← hr]; simp [sameA, e4]
       subst this
       exact same8_4 h o hp0 md pr ag ai md' pr' ag' ai' p vp vp' vc vc' w hp hp' e4
     ·have : r = false := by rw [← hr]; simp [sameA, e3]
      subst this
      exact same8_3 h o hp0 md pr ag ai hp0' md' pr' ag' ai' p vp vp' vc vc' w hp hp' e3
    ·have : r = false := by rw [← hr]; simp [sameA, e2]
     subst this
     exact same8_2 h o hp0 md pr ag ai hp0' md' pr' ag' ai' p p' vp vp' vc vc' w hp hp' e2
   ·have : r = false := by rw [← hr]; simp [sameA, e1]
    subst this
    exact same8_1 h o o' hp0 md pr ag ai hp0' md' pr' ag' ai' vp vp' vc vc' w e1
  ·have : r = false := by rw [← hr]; simp [sameA, e0]
   subst this
   exact same8_0 h o h' o' hp0 md pr ag ai hp0' md' pr' ag' ai' vp vp' vc vc' w e0
 exact key _ rfl
end Go.Proofs.YtlhdjdnflpilbaaGreatDoor.Att
namespace Go.Proofs.YtlhdjdnflpilbaaGreatDoor.Upd
open Go.RowKit Mem Oct Att PR
instance : DecidableEq Pf := fun p q => if h : p.a = q.a ∧ p.n = q.n then isTrue (by
  obtain ⟨a, n⟩ := p
  obtain ⟨b, m⟩ := q
  obtain ⟨h1, h2⟩ := h
  dsimp only at h1 h2
  rw [h1, h2]) else isFalse (fun e => h (by rw [e]; exact ⟨rfl, rfl⟩))
structure Up where
 gone : List Pf
 at_ : At
 here : List Pf
def zeroU : Up := ⟨[], zeroA, []⟩
def sameU (a b : Up) : Bool := decide (a.gone = b.gone) && decide (a.here = b.here) && sameA a.at_ b.at_
theorem sameU_iff {a b : Up} : sameU a b = true ↔ a = b := by
 obtain ⟨a1, a2, a3⟩ := a
 obtain ⟨b1, b2, b3⟩ := b
 unfold sameU
 simp only [Bool.and_eq_true, decide_eq_true_eq, sameA_iff, Up.mk.injEq]
 constructor
 ·rintro ⟨⟨h1, h2⟩, h3⟩; exact ⟨h1, h3, h2⟩
 ·rintro ⟨h1, h3, h2⟩; exact ⟨⟨h1, h2⟩, h3⟩
def uV (a : At) (vg vp vc vh : Value) : Value := .agg #[vg, .int .i64 a.has, .int .i64 a.origin, vp, .int .u32 a.hop, .int .u32 a.med, .int .u32 a.pref, .int .u32 a.aas, .int .u32 a.aid, vc, vh]
def aV (a : At) (vp vc : Value) : Value := .agg #[.int .i64 a.has, .int .i64 a.origin, vp, .int .u32 a.hop, .int .u32 a.med, .int .u32 a.pref, .int .u32 a.aas, .int .u32 a.aid, vc]
def Upds (W : World) (v : Value) (u : Up) : Prop := ∃ vg vp vc vh, v = uV u.at_ vg vp vc vh ∧ Pfxs W vg u.gone ∧ Attrs W (aV u.at_ vp vc) u.at_ ∧ Pfxs W vh u.here
theorem Upds.keep {W W' : World} {v : Value} {u : Up} (h : Upds W v u) (hb : Below W.heap.size W W') : Upds W' v u := by
 obtain ⟨vg, vp, vc, vh, h1, h2, h3, h4⟩ := h
 exact ⟨vg, vp, vc, vh, h1, h2.keep hb, h3.keep hb, h4.keep hb⟩
theorem upds_zero (W : World) : Upds W (uV zeroA (.slice none 0 0) (.slice none 0 0) (.slice none 0 0) (.slice none 0 0)) zeroU :=
 ⟨_, _, _, _, rfl, Pfxs.nil W, attrs_zero W, Pfxs.nil W⟩
structure BoxU (W : World) (B : Nat) (t : TypeId) (a : At) (vg vp vc vh : Value) : Prop where
 blk : W.heap[B]? = some (.cells #[vg, .int .i64 a.has, .int .i64 a.origin, vp, .int .u32 a.hop, .int .u32 a.med, .int .u32 a.pref, .int .u32 a.aas, .int .u32 a.aid, vc, vh] t (0, 0))
section
variable {W W' : World} {B : Nat} {t : TypeId} {a : At} {vg vp vc vh : Value}
theorem BoxU.new (W : World) (t : TypeId) (a : At) (vg vp vc vh : Value) : BoxU (W.alloc (.cells #[vg, .int .i64 a.has, .int .i64 a.origin, vp, .int .u32 a.hop, .int .u32 a.med, .int .u32 a.pref, .int .u32 a.aas, .int .u32 a.aid, vc, vh] t)) W.heap.size t a vg vp vc vh := ⟨heap_alloc_new _ _⟩
theorem BoxU.lt (h : BoxU W B t a vg vp vc vh) : B < W.heap.size := (Array.getElem?_eq_some_iff.1 h.blk).1
theorem BoxU.keep (h : BoxU W B t a vg vp vc vh) (hb : Below W.heap.size W W') : BoxU W' B t a vg vp vc vh := ⟨(hb.block B h.lt).trans h.blk⟩
theorem BoxU.far {C i : Nat} (h : BoxU W B t a vg vp vc vh) (hne : B ≠ C) (u : Value) : BoxU (W.setCell ⟨C, i, none⟩ u) B t a vg vp vc vh := ⟨(Go.RowKit.Below.heap_setCell _ _ _ _ hne).trans h.blk⟩
theorem BoxU.below (h : BoxU W B t a vg vp vc vh) (hb : ∀ k, k = B → W'.heap[k]? = W.heap[k]?) : BoxU W' B t a vg vp vc vh := ⟨(hb B rfl).trans h.blk⟩
theorem BoxU.free (h : BoxU W B t a vg vp vc vh) (i : Nat) : W.frozen? ⟨B, i, none⟩ = false := Go.Joins.unfrozen_of_block h.blk i
def UCells (W : World) (B : Nat) (a : At) (vg vp vc vh : Value) : Prop := W.cell? ⟨B, 0, none⟩ = some vg ∧ W.cell? ⟨B, 1, none⟩ = some (.int .i64 a.has) ∧ W.cell? ⟨B, 2, none⟩ = some (.int .i64 a.origin) ∧ W.cell? ⟨B, 3, none⟩ = some vp ∧ W.cell? ⟨B, 4, none⟩ = some (.int .u32 a.hop) ∧ W.cell? ⟨B, 5, none⟩ = some (.int .u32 a.med) ∧ W.cell? ⟨B, 6, none⟩ = some (.int .u32 a.pref) ∧ W.cell? ⟨B, 7, none⟩ = some (.int .u32 a.aas) ∧ W.cell? ⟨B, 8, none⟩ = some (.int .u32 a.aid) ∧ W.cell? ⟨B, 9, none⟩ = some vc ∧ W.cell? ⟨B, 10, none⟩ = some vh
theorem BoxU.cells (h : BoxU W B t a vg vp vc vh) : UCells W B a vg vp vc vh := by
 have hb := h.blk
 simp [UCells, World.cell?, hb]
end
end Go.Proofs.YtlhdjdnflpilbaaGreatDoor.Upd
namespace Go.Proofs.YtlhdjdnflpilbaaGreatDoor.Att
open Go.RowKit Mem Segm Oct
set_option maxHeartbeats 2000000 in
theorem psame8_0 (h o h' o' : Int) (hp md pr ag ai hp' md' pr' ag' ai' : Nat) (vp vp' vcm vcm' : Value) (w : World) (hne : h ≠ h') :
  Calls Tryz.prog 26 #[.agg #[.int .i64 h, .int .i64 o, vp, .int .u32 hp, .int .u32 md, .int .u32 pr, .int .u32 ag, .int .u32 ai, vcm], .agg #[.int .i64 h', .int .i64 o', vp', .int .u32 (hp' : Nat), .int .u32 (md' : Nat), .int .u32 (pr' : Nat), .int .u32 (ag' : Nat), .int .u32 (ai' : Nat), vcm']] w (Tells (.bool false) w) := by
 obtain ⟨b1, b2, hb⟩ := two_boxes w 27 (.int .i64 h) (.int .i64 o) vp (.int .u32 hp) (.int .u32 md) (.int .u32 pr) (.int .u32 ag) (.int .u32 ai) vcm (.int .i64 h') (.int .i64 o') vp' (.int .u32 (hp' : Nat)) (.int .u32 (md' : Nat)) (.int .u32 (pr' : Nat)) (.int .u32 (ag' : Nat)) (.int .u32 (ai' : Nat)) vcm'
 obtain ⟨c0, c1, c2, c3, c4, c5, c6, c7, c8⟩ := b1.cells
 obtain ⟨d0, d1, d2, d3, d4, d5, d6, d7, d8⟩ := b2.cells
 have y0 : (h == h') = false := beq_eq_false_iff_ne.2 hne
 have HB := Go.Lib.hid hb
 clear hb b1 b2 hne
 go_enter Tryz.func26, Tryz.ntmps26
 go_wp2
 go_ret
 exact ⟨rfl, HB.out⟩
set_option maxHeartbeats 2000000 in
theorem psame8_1 (h o o' : Int) (hp md pr ag ai hp' md' pr' ag' ai' : Nat) (vp vp' vcm vcm' : Value) (w : World) (hne : o ≠ o') :
  Calls Tryz.prog 26 #[.agg #[.int .i64 h, .int .i64 o, vp, .int .u32 hp, .int .u32 md, .int .u32 pr, .int .u32 ag, .int .u32 ai, vcm], .agg #[.int .i64 h, .int .i64 o', vp', .int .u32 (hp' : Nat), .int .u32 (md' : Nat), .int .u32 (pr' : Nat), .int .u32 (ag' : Nat), .int .u32 (ai' : Nat), vcm']] w (Tells (.bool false) w) := by
 obtain ⟨b1, b2, hb⟩ := two_boxes w 27 (.int .i64 h) (.int .i64 o) vp (.int .u32 hp) (.int .u32 md) (.int .u32 pr) (.int .u32 ag) (.int .u32 ai) vcm (.int .i64 h) (.int .i64 o') vp' (.int .u32 (hp' : Nat)) (.int .u32 (md' : Nat)) (.int .u32 (pr' : Nat)) (.int .u32 (ag' : Nat)) (.int .u32 (ai' : Nat)) vcm'
 obtain ⟨c0, c1, c2, c3, c4, c5, c6, c7, c8⟩ := b1.cells
 obtain ⟨d0, d1, d2, d3, d4, d5, d6, d7, d8⟩ := b2.cells
 have y0 : (o == o') = false := beq_eq_false_iff_ne.2 hne
 have HB := Go.Lib.hid hb
 clear hb b1 b2 hne
 go_enter Tryz.func26, Tryz.ntmps26
 go_wp2
 go_ret
 exact ⟨rfl, HB.out⟩
set_option maxHeartbeats 2000000 in
theorem psame8_2 (h o : Int) (hp md pr ag ai hp' md' pr' ag' ai' : Nat) (p p' : List Piece) (vp vp' vcm vcm' : Value) (w : World) (h1 : Segs w vp p) (h2 : Segs w vp' p') (hne : p ≠ p') :
  Calls Tryz.prog 26 #[.agg #[.int .i64 h, .int .i64 o, vp, .int .u32 hp, .int .u32 md, .int .u32 pr, .int .u32 ag, .int .u32 ai, vcm], .agg #[.int .i64 h, .int .i64 o, vp', .int .u32 (hp' : Nat), .int .u32 (md' : Nat), .int .u32 (pr' : Nat), .int .u32 (ag' : Nat), .int .u32 (ai' : Nat), vcm']] w (Tells (.bool false) w) := by
 obtain ⟨b1, b2, hb⟩ := two_boxes w 27 (.int .i64 h) (.int .i64 o) vp (.int .u32 hp) (.int .u32 md) (.int .u32 pr) (.int .u32 ag) (.int .u32 ai) vcm (.int .i64 h) (.int .i64 o) vp' (.int .u32 (hp' : Nat)) (.int .u32 (md' : Nat)) (.int .u32 (pr' : Nat)) (.int .u32 (ag' : Nat)) (.int .u32 (ai' : Nat)) vcm'
 have CP := Go.Lib.hid (fun (W : World) (h : Below w.heap.size w W) => show Calls Tryz.prog 66 #[vp, vp'] W (Tells (.bool false) W) from by have h9 := psame_any vp vp' p p' W (h1.keep h) (h2.keep h); rw [show decide (p = p') = false from decide_eq_false hne] at h9; exact h9)
 obtain ⟨c0, c1, c2, c3, c4, c5, c6, c7, c8⟩ := b1.cells
 obtain ⟨d0, d1, d2, d3, d4, d5, d6, d7, d8⟩ := b2.cells
 have HB := Go.Lib.hid hb
 clear hb b1 b2 h1 h2 hne
 go_enter Tryz.func26, Tryz.ntmps26
 go_wp2_with (go_at_call 66; refine (CP.out _ HB.out).mono ?_; rintro e x ⟨rfl, hx⟩; replace c3 := keeps hx c3; replace d3 := keeps hx d3; replace c4 := keeps hx c4; replace d4 := keeps hx d4; replace c5 := keeps hx c5; replace d5 := keeps hx d5; replace c6 := keeps hx c6; replace d6 := keeps hx d6; replace c7 := keeps hx c7; replace d7 := keeps hx d7; replace c8 := keeps hx c8; replace d8 := keeps hx d8; replace HB := Go.Lib.hid (HB.out.trans (hx.mono HB.out.size)); clear hx)
 go_ret
 exact ⟨rfl, HB.out⟩
set_option maxHeartbeats 2000000 in
theorem psame8_3 (h o : Int) (hp md pr ag ai hp' md' pr' ag' ai' : Nat) (p : List Piece) (vp vp' vcm vcm' : Value) (w : World) (h1 : Segs w vp p) (h2 : Segs w vp' p) (hne : hp ≠ hp') :
  Calls Tryz.prog 26 #[.agg #[.int .i64 h, .int .i64 o, vp, .int .u32 hp, .int .u32 md, .int .u32 pr, .int .u32 ag, .int .u32 ai, vcm], .agg #[.int .i64 h, .int .i64 o, vp', .int .u32 (hp' : Nat), .int .u32 (md' : Nat), .int .u32 (pr' : Nat), .int .u32 (ag' : Nat), .int .u32 (ai' : Nat), vcm']] w (Tells (.bool false) w) := by
 obtain ⟨b1, b2, hb⟩ := two_boxes w 27 (.int .i64 h) (.int .i64 o) vp (.int .u32 hp) (.int .u32 md) (.int .u32 pr) (.int .u32 ag) (.int .u32 ai) vcm (.int .i64 h) (.int .i64 o) vp' (.int .u32 (hp' : Nat)) (.int .u32 (md' : Nat)) (.int .u32 (pr' : Nat)) (.int .u32 (ag' : Nat)) (.int .u32 (ai' : Nat)) vcm'
 have CP := Go.Lib.hid (fun (W : World) (h : Below w.heap.size w W) => show Calls Tryz.prog 66 #[vp, vp'] W (Tells (.bool true) W) from by have h9 := psame_any vp vp' p p W (h1.keep h) (h2.keep h); rw [show decide (p = p) = true from decide_eq_true rfl] at h9; exact h9)
 obtain ⟨c0, c1, c2, c3, c4, c5, c6, c7, c8⟩ := b1.cells
 obtain ⟨d0, d1, d2, d3, d4, d5, d6, d7, d8⟩ := b2.cells
 have y0 : ((hp : Int) == (hp' : Int)) = false := beq_eq_false_iff_ne.2 (fun e => hne (Int.ofNat.inj e))
 have HB := Go.Lib.hid hb
 clear hb b1 b2 h1 h2 hne
 go_enter Tryz.func26, Tryz.ntmps26
 go_wp2_with (go_at_call 66; refine (CP.out _ HB.out).mono ?_; rintro e x ⟨rfl, hx⟩; replace c3 := keeps hx c3; replace d3 := keeps hx d3; replace c4 := keeps hx c4; replace d4 := keeps hx d4; replace c5 := keeps hx c5; replace d5 := keeps hx d5; replace c6 := keeps hx c6; replace d6 := keeps hx d6; replace c7 := keeps hx c7; replace d7 := keeps hx d7; replace c8 := keeps hx c8; replace d8 := keeps hx d8; replace HB := Go.Lib.hid (HB.out.trans (hx.mono HB.out.size)); clear hx)
 go_ret
 exact ⟨rfl, HB.out⟩
set_option maxHeartbeats 2000000 in
theorem psame8_4 (h o : Int) (hp md pr ag ai md' pr' ag' ai' : Nat) (p : List Piece) (vp vp' vcm vcm' : Value) (w : World) (h1 : Segs w vp p) (h2 : Segs w vp' p) (hne : md ≠ md') :
  Calls Tryz.prog 26 #[.agg #[.int .i64 h, .int .i64 o, vp, .int .u32 hp, .int .u32 md, .int .u32 pr, .int .u32 ag, .int .u32 ai, vcm], .agg #[.int .i64 h, .int .i64 o, vp', .int .u32 hp, .int .u32 (md' : Nat), .int .u32 (pr' : Nat), .int .u32 (ag' : Nat), .int .u32 (ai' : Nat), vcm']] w (Tells (.bool false) w) := by
 obtain ⟨b1, b2, hb⟩ := two_boxes w 27 (.int .i64 h) (.int .i64 o) vp (.int .u32 hp) (.int .u32 md) (.int .u32 pr) (.int .u32 ag) (.int .u32 ai) vcm (.int .i64 h) (.int .i64 o) vp' (.int .u32 hp) (.int .u32 (md' : Nat)) (.int .u32 (pr' : Nat)) (.int .u32 (ag' : Nat)) (.int .u32 (ai' : Nat)) vcm'
 have CP := Go.Lib.hid (fun (W : World) (h : Below w.heap.size w W) => show Calls Tryz.prog 66 #[vp, vp'] W (Tells (.bool true) W) from by have h9 := psame_any vp vp' p p W (h1.keep h) (h2.keep h); rw [show decide (p = p) = true from decide_eq_true rfl] at h9; exact h9)
 obtain ⟨c0, c1, c2, c3, c4, c5, c6, c7, c8⟩ := b1.cells
 obtain ⟨d0, d1, d2, d3, d4, d5, d6, d7, d8⟩ := b2.cells
 have y0 : ((md : Int) == (md' : Int)) = false := beq_eq_false_iff_ne.2 (fun e => hne (Int.ofNat.inj e))
 have HB := Go.Lib.hid hb
 clear hb b1 b2 h1 h2 hne
 go_enter Tryz.func26, Tryz.ntmps26
 go_wp2_with (go_at_call 66; refine (CP.out _ HB.out).mono ?_; rintro e x ⟨rfl, hx⟩; replace c3 := keeps hx c3; replace d3 := keeps hx d3; replace c4 := keeps hx c4; replace d4 := keeps hx d4; replace c5 := keeps hx c5; replace d5 := keeps hx d5; replace c6 := keeps hx c6; replace d6 := keeps hx d6; replace c7 := keeps hx c7; replace d7 := keeps hx d7; replace c8 := keeps hx c8; replace d8 := keeps hx d8; replace HB := Go.Lib.hid (HB.out.trans (hx.mono HB.out.size)); clear hx)
 go_ret
 exact ⟨rfl, HB.out⟩
set_option maxHeartbeats 2000000 in
theorem psame8_5 (h o : Int) (hp md pr ag ai pr' ag' ai' : Nat) (p : List Piece) (vp vp' vcm vcm' : Value) (w : World) (h1 : Segs w vp p) (h2 : Segs w vp' p) (hne : pr ≠ pr') :
  Calls Tryz.prog 26 #[.agg #[.int .i64 h, .int .i64 o, vp, .int .u32 hp, .int .u32 md, .int .u32 pr, .int .u32 ag, .int .u32 ai, vcm], .agg #[.int .i64 h, .int .i64 o, vp', .int .u32 hp, .int .u32 md, .int .u32 (pr' : Nat), .int .u32 (ag' : Nat), .int .u32 (ai' : Nat), vcm']] w (Tells (.bool false) w) := by
 obtain ⟨b1, b2, hb⟩ := two_boxes w 27 (.int .i64 h) (.int .i64 o) vp (.int .u32 hp) (.int .u32 md) (.int .u32 pr) (.int .u32 ag) (.int .u32 ai) vcm (.int .i64 h) (.int .i64 o) vp' (.int .u32 hp) (.int .u32 md) (.int .u32 (pr' : Nat)) (.int .u32 (ag' : Nat)) (.int .u32 (ai' : Nat)) vcm'
 have CP := Go.Lib.hid (fun (W : World) (h : Below w.heap.size w W) => show Calls Tryz.prog 66 #[vp, vp'] W (Tells (.bool true) W) from by have h9 := psame_any vp vp' p p W (h1.keep h) (h2.keep h); rw [show decide (p = p) = true from decide_eq_true rfl] at h9; exact h9)
 obtain ⟨c0, c1, c2, c3, c4, c5, c6, c7, c8⟩ := b1.cells
 obtain ⟨d0, d1, d2, d3, d4, d5, d6, d7, d8⟩ := b2.cells
 have y0 : ((pr : Int) == (pr' : Int)) = false := beq_eq_false_iff_ne.2 (fun e => hne (Int.ofNat.inj e))
 have HB := Go.Lib.hid hb
 clear hb b1 b2 h1 h2 hne
 go_enter Tryz.func26, Tryz.ntmps26
 go_wp2_with (go_at_call 66; refine (CP.out _ HB.out).mono ?_; rintro e x ⟨rfl, hx⟩; replace c3 := keeps hx c3; replace d3 := keeps hx d3; replace c4 := keeps hx c4; replace d4 := keeps hx d4; replace c5 := keeps hx c5; replace d5 := keeps hx d5; replace c6 := keeps hx c6; replace d6 := keeps hx d6; replace c7 := keeps hx c7; replace d7 := keeps hx d7; replace c8 := keeps hx c8; replace d8 := keeps hx d8; replace HB := Go.Lib.hid (HB.out.trans (hx.mono HB.out.size)); clear hx)
 go_ret
 exact ⟨rfl, HB.out⟩
set_option maxHeartbeats 2000000 in
theorem psame8_6 (h o : Int) (hp md pr ag ai ag' ai' : Nat) (p : List Piece) (vp vp' vcm vcm' : Value) (w : World) (h1 : Segs w vp p) (h2 : Segs w vp' p) (hne : ag ≠ ag') :
  Calls Tryz.prog 26 #[.agg #[.int .i64 h, .int .i64 o, vp, .int .u32 hp, .int .u32 md, .int .u32 pr, .int .u32 ag, .int .u32 ai, vcm], .agg #[.int .i64 h, .int .i64 o, vp', .int .u32 hp, .int .u32 md, .int .u32 pr, .int .u32 (ag' : Nat), .int .u32 (ai' : Nat), vcm']] w (Tells (.bool false) w) := by
 obtain ⟨b1, b2, hb⟩ := two_boxes w 27 (.int .i64 h) (.int .i64 o) vp (.int .u32 hp) (.int .u32 md) (.int .u32 pr) (.int .u32 ag) (.int .u32 ai) vcm (.int .i64 h) (.int .i64 o) vp' (.int .u32 hp) (.int .u32 md) (.int .u32 pr) (.int .u32 (ag' : Nat)) (.int .u32 (ai' : Nat)) vcm'
 have CP := Go.Lib.hid (fun (W : World) (h : Below w.heap.size w W) => show Calls Tryz.prog 66 #[vp, vp'] W (Tells (.bool true) W) from by have h9 := psame_any vp vp' p p W (h1.keep h) (h2.keep h); rw [show decide (p = p) = true from decide_eq_true rfl] at h9; exact h9)
 obtain ⟨c0, c1, c2, c3, c4, c5, c6, c7, c8⟩ := b1.cells
 obtain ⟨d0, d1, d2, d3, d4, d5, d6, d7, d8⟩ := b2.cells
 have y0 : ((ag : Int) == (ag' : Int)) = false := beq_eq_false_iff_ne.2 (fun e => hne (Int.ofNat.inj e))
 have HB := Go.Lib.hid hb
 clear hb b1 b2 h1 h2 hne
 go_enter Tryz.func26, Tryz.ntmps26
 go_wp2_with (go_at_call 66; refine (CP.out _ HB.out).mono ?_; rintro e x ⟨rfl, hx⟩; replace c3 := keeps hx c3; replace d3 := keeps hx d3; replace c4 := keeps hx c4; replace d4 := keeps hx d4; replace c5 := keeps hx c5; replace d5 := keeps hx d5; replace c6 := keeps hx c6; replace d6 := keeps hx d6; replace c7 := keeps hx c7; replace d7 := keeps hx d7; replace c8 := keeps hx c8; replace d8 := keeps hx d8; replace HB := Go.Lib.hid (HB.out.trans (hx.mono HB.out.size)); clear hx)
 go_ret
 exact ⟨rfl, HB.out⟩
set_option maxHeartbeats 2000000 in
theorem psame8_7 (h o : Int) (hp md pr ag ai ai' : Nat) (p : List Piece) (vp vp' vcm vcm' : Value) (w : World) (h1 : Segs w vp p) (h2 : Segs w vp' p) (hne : ai ≠ ai') :
  Calls Tryz.prog 26 #[.agg #[.int .i64 h, .int .i64 o, vp, .int .u32 hp, .int .u32 md, .int .u32 pr, .int .u32 ag, .int .u32 ai, vcm], .agg #[.int .i64 h, .int .i64 o, vp', .int .u32 hp, .int .u32 md, .int .u32 pr, .int .u32 ag, .int .u32 (ai' : Nat), vcm']] w (Tells (.bool false) w) := by
 obtain ⟨b1, b2, hb⟩ := two_boxes w 27 (.int .i64 h) (.int .i64 o) vp (.int .u32 hp) (.int .u32 md) (.int .u32 pr) (.int .u32 ag) (.int .u32 ai) vcm (.int .i64 h) (.int .i64 o) vp' (.int .u32 hp) (.int .u32 md) (.int .u32 pr) (.int .u32 ag) (.int .u32 (ai' : Nat)) vcm'
 have CP := Go.Lib.hid (fun (W : World) (h : Below w.heap.size w W) => show Calls Tryz.prog 66 #[vp, vp'] W (Tells (.bool true) W) from by have h9 := psame_any vp vp' p p W (h1.keep h) (h2.keep h); rw [show decide (p = p) = true from decide_eq_true rfl] at h9; exact h9)
 obtain ⟨c0, c1, c2, c3, c4, c5, c6, c7, c8⟩ := b1.cells
 obtain ⟨d0, d1, d2, d3, d4, d5, d6, d7, d8⟩ := b2.cells
 have y0 : ((ai : Int) == (ai' : Int)) = false := beq_eq_false_iff_ne.2 (fun e => hne (Int.ofNat.inj e))
 have HB := Go.Lib.hid hb
 clear hb b1 b2 h1 h2 hne
 go_enter Tryz.func26, Tryz.ntmps26
 go_wp2_with (go_at_call 66; refine (CP.out _ HB.out).mono ?_; rintro e x ⟨rfl, hx⟩; replace c3 := keeps hx c3; replace d3 := keeps hx d3; replace c4 := keeps hx c4; replace d4 := keeps hx d4; replace c5 := keeps hx c5; replace d5 := keeps hx d5; replace c6 := keeps hx c6; replace d6 := keeps hx d6; replace c7 := keeps hx c7; replace d7 := keeps hx d7; replace c8 := keeps hx c8; replace d8 := keeps hx d8; replace HB := Go.Lib.hid (HB.out.trans (hx.mono HB.out.size)); clear hx)
 go_ret
 exact ⟨rfl, HB.out⟩
set_option maxHeartbeats 2000000 in
theorem psame8_8 (h o : Int) (hp md pr ag ai : Nat) (p : List Piece) (cm cm' : List Nat) (vp vp' vcm vcm' : Value) (w : World) (h1 : Segs w vp p) (h2 : Segs w vp' p) (h3 : U32s w vcm cm) (h4 : U32s w vcm' cm') (hne : cm ≠ cm') :
  Calls Tryz.prog 26 #[.agg #[.int .i64 h, .int .i64 o, vp, .int .u32 hp, .int .u32 md, .int .u32 pr, .int .u32 ag, .int .u32 ai, vcm], .agg #[.int .i64 h, .int .i64 o, vp', .int .u32 hp, .int .u32 md, .int .u32 pr, .int .u32 ag, .int .u32 ai, vcm']] w (Tells (.bool false) w) := by
 obtain ⟨b1, b2, hb⟩ := two_boxes w 27 (.int .i64 h) (.int .i64 o) vp (.int .u32 hp) (.int .u32 md) (.int .u32 pr) (.int .u32 ag) (.int .u32 ai) vcm (.int .i64 h) (.int .i64 o) vp' (.int .u32 hp) (.int .u32 md) (.int .u32 pr) (.int .u32 ag) (.int .u32 ai) vcm'
 have CP := Go.Lib.hid (fun (W : World) (h : Below w.heap.size w W) => show Calls Tryz.prog 66 #[vp, vp'] W (Tells (.bool true) W) from by have h9 := psame_any vp vp' p p W (h1.keep h) (h2.keep h); rw [show decide (p = p) = true from decide_eq_true rfl] at h9; exact h9)
 have CN := Go.Lib.hid (fun (W : World) (h : Below w.heap.size w W) => show Calls Tryz.prog 67 #[vcm, vcm'] W (Tells (.bool false) W) from by have h9 := Nums.same_any vcm vcm' cm cm' W (h3.keep h) (h4.keep h); rw [show decide (cm = cm') = false from decide_eq_false hne] at h9; exact h9)
 obtain ⟨c0, c1, c2, c3, c4, c5, c6, c7, c8⟩ := b1.cells
 obtain ⟨d0, d1, d2, d3, d4, d5, d6, d7, d8⟩ := b2.cells
 have HB := Go.Lib.hid hb
 clear hb b1 b2 h1 h2 h3 h4 hne
 go_enter Tryz.func26, Tryz.ntmps26
 go_wp2_with (first
  | (go_at_call 66; refine (CP.out _ HB.out).mono ?_; rintro e x ⟨rfl, hx⟩; replace c3 := keeps hx c3; replace d3 := keeps hx d3; replace c4 := keeps hx c4; replace d4 := keeps hx d4; replace c5 := keeps hx c5; replace d5 := keeps hx d5; replace c6 := keeps hx c6; replace d6 := keeps hx d6; replace c7 := keeps hx c7; replace d7 := keeps hx d7; replace c8 := keeps hx c8; replace d8 := keeps hx d8; replace HB := Go.Lib.hid (HB.out.trans (hx.mono HB.out.size)); clear hx)
  | (go_at_call 67; refine (CN.out _ HB.out).mono ?_; rintro e x ⟨rfl, hx⟩; replace HB := Go.Lib.hid (HB.out.trans (hx.mono HB.out.size)); clear hx))
 go_ret
 exact ⟨rfl, HB.out⟩
set_option maxHeartbeats 2000000 in
theorem psame8_9 (h o : Int) (hp md pr ag ai : Nat) (p : List Piece) (cm : List Nat) (vp vp' vcm vcm' : Value) (w : World) (h1 : Segs w vp p) (h2 : Segs w vp' p) (h3 : U32s w vcm cm) (h4 : U32s w vcm' cm) :
  Calls Tryz.prog 26 #[.agg #[.int .i64 h, .int .i64 o, vp, .int .u32 hp, .int .u32 md, .int .u32 pr, .int .u32 ag, .int .u32 ai, vcm], .agg #[.int .i64 h, .int .i64 o, vp', .int .u32 hp, .int .u32 md, .int .u32 pr, .int .u32 ag, .int .u32 ai, vcm']] w (Tells (.bool true) w) := by
 obtain ⟨b1, b2, hb⟩ := two_boxes w 27 (.int .i64 h) (.int .i64 o) vp (.int .u32 hp) (.int .u32 md) (.int .u32 pr) (.int .u32 ag) (.int .u32 ai) vcm (.int .i64 h) (.int .i64 o) vp' (.int .u32 hp) (.int .u32 md) (.int .u32 pr) (.int .u32 ag) (.int .u32 ai) vcm'
 have CP := Go.Lib.hid (fun (W : World) (h : Below w.heap.size w W) => show Calls Tryz.prog 66 #[vp, vp'] W (Tells (.bool true) W) from by have h9 := psame_any vp vp' p p W (h1.keep h) (h2.keep h); rw [show decide (p = p) = true from decide_eq_true rfl] at h9; exact h9)
 have CN := Go.Lib.hid (fun (W : World) (h : Below w.heap.size w W) => show Calls Tryz.prog 67 #[vcm, vcm'] W (Tells (.bool true) W) from by have h9 := Nums.same_any vcm vcm' cm cm W (h3.keep h) (h4.keep h); rw [show decide (cm = cm) = true from decide_eq_true rfl] at h9; exact h9)
 obtain ⟨c0, c1, c2, c3, c4, c5, c6, c7, c8⟩ := b1.cells
 obtain ⟨d0, d1, d2, d3, d4, d5, d6, d7, d8⟩ := b2.cells
 have HB := Go.Lib.hid hb
 clear hb b1 b2 h1 h2 h3 h4
 go_enter Tryz.func26, Tryz.ntmps26
 go_wp2_with (first
  | (go_at_call 66; refine (CP.out _ HB.out).mono ?_; rintro e x ⟨rfl, hx⟩; replace c3 := keeps hx c3; replace d3 := keeps hx d3; replace c4 := keeps hx c4; replace d4 := keeps hx d4; replace c5 := keeps hx c5; replace d5 := keeps hx d5; replace c6 := keeps hx c6; replace d6 := keeps hx d6; replace c7 := keeps hx c7; replace d7 := keeps hx d7; replace c8 := keeps hx c8; replace d8 := keeps hx d8; replace HB := Go.Lib.hid (HB.out.trans (hx.mono HB.out.size)); clear hx)
  | (go_at_call 67; refine (CN.out _ HB.out).mono ?_; rintro e x ⟨rfl, hx⟩; replace HB := Go.Lib.hid (HB.out.trans (hx.mono HB.out.size)); clear hx))
 go_ret
 exact ⟨rfl, HB.out⟩
theorem sameA_any (va vb : Value) (a b : At) (w : World) (ha : Attrs w va a) (hb : Attrs w vb b) : Calls Tryz.prog 26 #[va, vb] w (Tells (.bool (sameA a b)) w) := by
 obtain ⟨_, vp, vc, rfl, hp, hc⟩ := ha
 obtain ⟨_, vp', vc', rfl, hp', hc'⟩ := hb
 obtain ⟨h, o, p, hp0, md, pr, ag, ai, cm⟩ := a
 obtain ⟨h', o', p', hp0', md', pr', ag', ai', cm'⟩ := b
 dsimp only at hp hc hp' hc'
 have key : ∀ r : Bool, sameA ⟨h, o, p, hp0, md, pr, ag, ai, cm⟩ ⟨h', o', p', hp0', md', pr', ag', ai', cm'⟩ = r → Calls Tryz.prog 26 #[.agg #[.int .i64 h, .int .i64 o, vp, .int .u32 hp0, .int .u32 md, .int .u32 pr, .int .u32 ag, .int .u32 ai, vc], .agg #[.int .i64 h', .int .i64 o', vp', .int .u32 hp0', .int .u32 md', .int .u32 pr', .int .u32 ag', .int .u32 ai', vc']] w (Tells (.bool r) w) := by
  intro r hr
  by_cases e0 : h = h'
  ·subst e0
   by_cases e1 : o = o'
   ·subst e1
    by_cases e2 : p = p'
    ·subst e2
     by_cases e3 : hp0 = hp0'
     ·subst e3
      by_cases e4 : md = md'
      ·subst e4
       by_cases e5 : pr = pr'
       ·subst e5
        by_cases e6 : ag = ag'
        ·subst e6
         by_cases e7 : ai = ai'
         ·subst e7
          by_cases e8 : cm = cm'
          ·subst e8
           have : r = true := by rw [← hr]; simp [sameA]
           subst this
           exact psame8_9 h o hp0 md pr ag ai p cm vp vp' vc vc' w hp hp' hc hc'
          ·have : r = false := by rw [← hr]; simp [sameA, e8]
           subst this
           exact psame8_8 h o hp0 md pr ag ai p cm cm' vp vp' vc vc' w hp hp' hc hc' e8
         ·have : r = false := by rw [← hr]; simp [sameA, e7]
          subst this
          exact psame8_7 h o hp0 md pr ag ai ai' p vp vp' vc vc' w hp hp' e7
        ·have : r = false := by rw [← hr]; simp [sameA, e6]
         subst this
         exact psame8_6 h o hp0 md pr ag ai ag' ai' p vp vp' vc vc' w hp hp' e6
       ·have : r = false := by rw [← hr]; simp [sameA, e5]
        subst this
        exact psame8_5 h o hp0 md pr ag ai pr' ag' ai' p vp vp' vc vc' w hp hp' e5
      ·have : r = false := by rw [← hr]; simp [sameA, e4]
       subst this
       exact psame8_4 h o hp0 md pr ag ai md' pr' ag' ai' p vp vp' vc vc' w hp hp' e4
     ·have : r = false := by rw [← hr]; simp [sameA, e3]
      subst this
      exact psame8_3 h o hp0 md pr ag ai hp0' md' pr' ag' ai' p vp vp' vc vc' w hp hp' e3
    ·have : r = false := by rw [← hr]; simp [sameA, e2]
     subst this
     exact psame8_2 h o hp0 md pr ag ai hp0' md' pr' ag' ai' p p' vp vp' vc vc' w hp hp' e2
   ·have : r = false := by rw [← hr]; simp [sameA, e1]
    subst this
    exact psame8_1 h o o' hp0 md pr ag ai hp0' md' pr' ag' ai' vp vp' vc vc' w e1
  ·have : r = false := by rw [← hr]; simp [sameA, e0]
   subst this
   exact psame8_0 h o h' o' hp0 md pr ag ai hp0' md' pr' ag' ai' vp vp' vc vc' w e0
 exact key _ rfl
end Go.Proofs.YtlhdjdnflpilbaaGreatDoor.Att
