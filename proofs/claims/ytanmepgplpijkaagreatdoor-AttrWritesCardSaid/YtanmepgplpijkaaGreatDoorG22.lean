/- The program's value of an attribute. The program's put of an attribute, and its value. The reference's value of an attribute: the aggregator. -/
import Derived.Test.YtanmepgplpijkaaGreatDoorG21
import Derived.Test.YtanmepgplpijkaaGreatDoorG06
import Derived.Test.YtanmepgplpijkaaGreatDoorG14
import Derived.Deep.RegionHeld3
import Derived.Test.YtanmepgplpijkaaGreatDoorG03
import Derived.Test.YtanmepgplpijkaaGreatDoorG19
namespace Go.Proofs.YtanmepgplpijkaaGreatDoor.Att
open Go.RowKit Mem Segm Oct
structure ValSt (w0 : World) (P : Value) (B : Nat) (x0 x1 x2 x3 x4 x5 x6 x7 x8 : Value) (l : List Nat) (F : Nat → Prop) (W : World) : Prop where
  wr : Wr W w0.heap.size P l F
  nb : ¬ F B
  b9 : Box9 W B 26 x0 x1 x2 x3 x4 x5 x6 x7 x8
  low : Below w0.heap.size w0 W
section
variable {w0 W W2 : World} {P v : Value} {B : Nat} {x0 x1 x2 x3 x4 x5 x6 x7 x8 : Value} {l l2 : List Nat} {F F2 : Nat → Prop} {e : Ending}
theorem ValSt.below (h : ValSt w0 P B x0 x1 x2 x3 x4 x5 x6 x7 x8 l F W) (hb : Below W.heap.size W W2) : ValSt w0 P B x0 x1 x2 x3 x4 x5 x6 x7 x8 l F W2 :=
  ⟨h.wr.below hb, h.nb, h.b9.keep hb, h.low.trans (hb.mono h.low.size)⟩
theorem ValSt.wst (h : ValSt w0 P B x0 x1 x2 x3 x4 x5 x6 x7 x8 l F W) (k : Wst w0.heap.size P F W l2 F2 W2) : ValSt w0 P B x0 x1 x2 x3 x4 x5 x6 x7 x8 l2 F2 W2 := by
  refine ⟨k.wr, fun hf => ?_, ⟨(k.on.block B h.b9.lt h.nb).trans h.b9.blk⟩, h.low.trans (k.on.below (fun j hj => (h.wr.lt j hj).1) h.low.size)⟩
  rcases k.gr B hf with q | q
  · exact h.nb q
  · have := h.b9.lt; omega
theorem ValSt.add (h : ValSt w0 P B x0 x1 x2 x3 x4 x5 x6 x7 x8 l F W) (k : AddF w0.heap.size P v l2 F W e W2) : ∃ F2, e = .returned v ∧ ValSt w0 P B x0 x1 x2 x3 x4 x5 x6 x7 x8 l2 F2 W2 := by
  obtain ⟨F2, h1, h2⟩ := (Wst.new h.wr).add k
  exact ⟨F2, h1, h.wst h2⟩
end
theorem val_start (w : World) (x0 x1 x2 x3 x4 x5 x6 x7 x8 : Value) : ValSt w (.pointer (some ⟨w.heap.size + 1, 0, none⟩)) w.heap.size x0 x1 x2 x3 x4 x5 x6 x7 x8 [] (fun k => k = w.heap.size + 1) ((w.alloc (.cells #[x0, x1, x2, x3, x4, x5, x6, x7, x8] 26)).alloc (.cells #[.slice none 0 0] 45)) := by
  have h1 := Box9.new w 26 x0 x1 x2 x3 x4 x5 x6 x7 x8
  have b1 : Below w.heap.size w (w.alloc (.cells #[x0, x1, x2, x3, x4, x5, x6, x7, x8] 26)) := (Below.refl _ w).alloc (Nat.le_refl _) _
  have e1 : (w.alloc (.cells #[x0, x1, x2, x3, x4, x5, x6, x7, x8] 26)).heap.size = w.heap.size + 1 := by simp
  have h2 := wr_zero (w.alloc (.cells #[x0, x1, x2, x3, x4, x5, x6, x7, x8] 26)) (base := w.heap.size) b1.size
  rw [e1] at h2
  exact ⟨h2, by show ¬ _ = _; omega, h1.keep ((Below.refl _ _).alloc (Nat.le_refl _) _), b1.alloc b1.size _⟩
set_option maxRecDepth 100000 in
set_option maxHeartbeats 2000000 in
theorem pval1 (h o : Int) (vp vc : Value) (hp md pr ag ai : Nat) (w : World) : Calls Tryz.prog 18 #[.agg #[.int .i64 h, .int .i64 o, vp, .int .u32 hp, .int .u32 md, .int .u32 pr, .int .u32 ag, .int .u32 ai, vc], .int .i64 1] w (Gives8 ([lo8 o]) w) := by
  have ST := Go.Lib.hid (val_start w (.int .i64 h) (.int .i64 o) (vp) (.int .u32 hp) (.int .u32 md) (.int .u32 pr) (.int .u32 ag) (.int .u32 ai) (vc))
  obtain ⟨c0, c1, c2, c3, c4, c5, c6, c7, c8⟩ := ST.out.b9.cells
  go_enter Tryz.func18, Tryz.ntmps18
  go_wp2_with (first
    | (go_at_call 44; first | (refine (w8_put _ _ [] _ o _ ST.out.wr (by simp) ST.out.low.size).mono ?_; intro e x hA; obtain ⟨F2, rfl, hS⟩ := ST.out.add hA; replace ST := Go.Lib.hid hS; clear c0 c1 c2 c3 c4 c5 c6 c7 c8; obtain ⟨c0, c1, c2, c3, c4, c5, c6, c7, c8⟩ := ST.out.b9.cells; clear hA hS) | (trace "FELL"; trace_state; fail_if_success skip))
    | (go_at_call 20; refine (wbytes_any _ _ _ _ _ ST.out.wr (by simp)).mono ?_; rintro e y ⟨A1, c1, rfl, ho, hy⟩; have HO := Go.Lib.hid (own_base ho ST.out.low.size); have HY := Go.Lib.hid (ST.out.low.trans (hy.mono ST.out.low.size)); clear ho hy))
  go_ret
  exact ⟨A1, c1, rfl, HO.out, HY.out⟩
set_option maxRecDepth 100000 in
set_option maxHeartbeats 2000000 in
theorem pval3 (h o : Int) (vp vc : Value) (hp md pr ag ai : Nat) (w : World) : Calls Tryz.prog 18 #[.agg #[.int .i64 h, .int .i64 o, vp, .int .u32 hp, .int .u32 md, .int .u32 pr, .int .u32 ag, .int .u32 ai, vc], .int .i64 3] w (Gives8 (big hp 4) w) := by
  have ST := Go.Lib.hid (val_start w (.int .i64 h) (.int .i64 o) (vp) (.int .u32 hp) (.int .u32 md) (.int .u32 pr) (.int .u32 ag) (.int .u32 ai) (vc))
  obtain ⟨c0, c1, c2, c3, c4, c5, c6, c7, c8⟩ := ST.out.b9.cells
  have HE := Go.Lib.hid (put4 hp)
  rw [← HE.out]
  go_enter Tryz.func18, Tryz.ntmps18
  go_wp2_with (first
    | (go_at_call 46; first | (refine (w32_put _ _ [] _ hp _ ST.out.wr (by simp) ST.out.low.size).mono ?_; intro e x hA; obtain ⟨F2, rfl, hS⟩ := ST.out.add hA; replace ST := Go.Lib.hid hS; clear c0 c1 c2 c3 c4 c5 c6 c7 c8; obtain ⟨c0, c1, c2, c3, c4, c5, c6, c7, c8⟩ := ST.out.b9.cells; clear hA hS) | (trace "FELL"; trace_state; fail_if_success skip))
    | (go_at_call 20; refine (wbytes_any _ _ _ _ _ ST.out.wr (by simp)).mono ?_; rintro e y ⟨A1, c1, rfl, ho, hy⟩; have HO := Go.Lib.hid (own_base ho ST.out.low.size); have HY := Go.Lib.hid (ST.out.low.trans (hy.mono ST.out.low.size)); clear ho hy))
  go_ret
  exact ⟨A1, c1, rfl, HO.out, HY.out⟩
set_option maxRecDepth 100000 in
set_option maxHeartbeats 2000000 in
theorem pval4 (h o : Int) (vp vc : Value) (hp md pr ag ai : Nat) (w : World) : Calls Tryz.prog 18 #[.agg #[.int .i64 h, .int .i64 o, vp, .int .u32 hp, .int .u32 md, .int .u32 pr, .int .u32 ag, .int .u32 ai, vc], .int .i64 4] w (Gives8 (big md 4) w) := by
  have ST := Go.Lib.hid (val_start w (.int .i64 h) (.int .i64 o) (vp) (.int .u32 hp) (.int .u32 md) (.int .u32 pr) (.int .u32 ag) (.int .u32 ai) (vc))
  obtain ⟨c0, c1, c2, c3, c4, c5, c6, c7, c8⟩ := ST.out.b9.cells
  have HE := Go.Lib.hid (put4 md)
  rw [← HE.out]
  go_enter Tryz.func18, Tryz.ntmps18
  go_wp2_with (first
    | (go_at_call 46; first | (refine (w32_put _ _ [] _ md _ ST.out.wr (by simp) ST.out.low.size).mono ?_; intro e x hA; obtain ⟨F2, rfl, hS⟩ := ST.out.add hA; replace ST := Go.Lib.hid hS; clear c0 c1 c2 c3 c4 c5 c6 c7 c8; obtain ⟨c0, c1, c2, c3, c4, c5, c6, c7, c8⟩ := ST.out.b9.cells; clear hA hS) | (trace "FELL"; trace_state; fail_if_success skip))
    | (go_at_call 20; refine (wbytes_any _ _ _ _ _ ST.out.wr (by simp)).mono ?_; rintro e y ⟨A1, c1, rfl, ho, hy⟩; have HO := Go.Lib.hid (own_base ho ST.out.low.size); have HY := Go.Lib.hid (ST.out.low.trans (hy.mono ST.out.low.size)); clear ho hy))
  go_ret
  exact ⟨A1, c1, rfl, HO.out, HY.out⟩
set_option maxRecDepth 100000 in
set_option maxHeartbeats 2000000 in
theorem pval5 (h o : Int) (vp vc : Value) (hp md pr ag ai : Nat) (w : World) : Calls Tryz.prog 18 #[.agg #[.int .i64 h, .int .i64 o, vp, .int .u32 hp, .int .u32 md, .int .u32 pr, .int .u32 ag, .int .u32 ai, vc], .int .i64 5] w (Gives8 (big pr 4) w) := by
  have ST := Go.Lib.hid (val_start w (.int .i64 h) (.int .i64 o) (vp) (.int .u32 hp) (.int .u32 md) (.int .u32 pr) (.int .u32 ag) (.int .u32 ai) (vc))
  obtain ⟨c0, c1, c2, c3, c4, c5, c6, c7, c8⟩ := ST.out.b9.cells
  have HE := Go.Lib.hid (put4 pr)
  rw [← HE.out]
  go_enter Tryz.func18, Tryz.ntmps18
  go_wp2_with (first
    | (go_at_call 46; first | (refine (w32_put _ _ [] _ pr _ ST.out.wr (by simp) ST.out.low.size).mono ?_; intro e x hA; obtain ⟨F2, rfl, hS⟩ := ST.out.add hA; replace ST := Go.Lib.hid hS; clear c0 c1 c2 c3 c4 c5 c6 c7 c8; obtain ⟨c0, c1, c2, c3, c4, c5, c6, c7, c8⟩ := ST.out.b9.cells; clear hA hS) | (trace "FELL"; trace_state; fail_if_success skip))
    | (go_at_call 20; refine (wbytes_any _ _ _ _ _ ST.out.wr (by simp)).mono ?_; rintro e y ⟨A1, c1, rfl, ho, hy⟩; have HO := Go.Lib.hid (own_base ho ST.out.low.size); have HY := Go.Lib.hid (ST.out.low.trans (hy.mono ST.out.low.size)); clear ho hy))
  go_ret
  exact ⟨A1, c1, rfl, HO.out, HY.out⟩
set_option maxRecDepth 100000 in
set_option maxHeartbeats 2000000 in
theorem pval6 (h o : Int) (vp vc : Value) (hp md pr ag ai : Nat) (w : World) : Calls Tryz.prog 18 #[.agg #[.int .i64 h, .int .i64 o, vp, .int .u32 hp, .int .u32 md, .int .u32 pr, .int .u32 ag, .int .u32 ai, vc], .int .i64 6] w (Gives8 ([]) w) := by
  have ST := Go.Lib.hid (val_start w (.int .i64 h) (.int .i64 o) (vp) (.int .u32 hp) (.int .u32 md) (.int .u32 pr) (.int .u32 ag) (.int .u32 ai) (vc))
  obtain ⟨c0, c1, c2, c3, c4, c5, c6, c7, c8⟩ := ST.out.b9.cells
  go_enter Tryz.func18, Tryz.ntmps18
  go_wp2_with (first
    | (go_at_call 20; refine (wbytes_any _ _ _ _ _ ST.out.wr (by simp)).mono ?_; rintro e y ⟨A1, c1, rfl, ho, hy⟩; have HO := Go.Lib.hid (own_base ho ST.out.low.size); have HY := Go.Lib.hid (ST.out.low.trans (hy.mono ST.out.low.size)); clear ho hy))
  go_ret
  exact ⟨A1, c1, rfl, HO.out, HY.out⟩
set_option maxRecDepth 100000 in
set_option maxHeartbeats 2000000 in
theorem pval7 (h o : Int) (vp vc : Value) (hp md pr ag ai : Nat) (w : World) : Calls Tryz.prog 18 #[.agg #[.int .i64 h, .int .i64 o, vp, .int .u32 hp, .int .u32 md, .int .u32 pr, .int .u32 ag, .int .u32 ai, vc], .int .i64 7] w (Gives8 (big ag 4 ++ big ai 4) w) := by
  have ST := Go.Lib.hid (val_start w (.int .i64 h) (.int .i64 o) (vp) (.int .u32 hp) (.int .u32 md) (.int .u32 pr) (.int .u32 ag) (.int .u32 ai) (vc))
  obtain ⟨c0, c1, c2, c3, c4, c5, c6, c7, c8⟩ := ST.out.b9.cells
  have HE := Go.Lib.hid (put4 ag)
  have HF := Go.Lib.hid (put4 ai)
  rw [← HE.out, ← HF.out]
  go_enter Tryz.func18, Tryz.ntmps18
  go_wp2
  have D0 := Go.Lib.hid (ST.out.below (Below.refl _ _).drew)
  clear c0 c1 c2 c3 c4 c5 c6 c7 c8
  obtain ⟨-, -, -, -, -, -, c6, c7, -⟩ := D0.out.b9.cells
  have CA := Go.Lib.hid (fun W (F : Nat → Prop) (h : ValSt w (.pointer (some ⟨w.heap.size + 1, 0, none⟩)) w.heap.size (.int .i64 h) (.int .i64 o) (vp) (.int .u32 hp) (.int .u32 md) (.int .u32 pr) (.int .u32 ag) (.int .u32 ai) (vc) [] F W) => w32_put _ _ [] F ag W h.wr (by simp) h.low.size)
  have CB := Go.Lib.hid (fun W (F : Nat → Prop) (l : List Nat) (hl : l.length ≤ 100) (h : ValSt w (.pointer (some ⟨w.heap.size + 1, 0, none⟩)) w.heap.size (.int .i64 h) (.int .i64 o) (vp) (.int .u32 hp) (.int .u32 md) (.int .u32 pr) (.int .u32 ag) (.int .u32 ai) (vc) l F W) => w32_put _ _ l F ai W h.wr (by omega) h.low.size)
  go_region_held3 (fun w' => w'.cell? ⟨w.heap.size, 6, none⟩ = some (.int .u32 ag) ∧ w'.cell? ⟨w.heap.size, 7, none⟩ = some (.int .u32 ai)) (exact ⟨by assumption, by assumption⟩) (first
    | (have hq := D0.out; go_at_call 46; refine (CA.out _ _ hq).mono ?_; intro e x hA; obtain ⟨F2, rfl, hS⟩ := hq.add hA; have ST1 := Go.Lib.hid hS; clear hA hS c6 c7 hq D0; obtain ⟨-, -, -, -, -, -, c6, c7, -⟩ := ST1.out.b9.cells)
    | (have hq := ST1.out; go_at_call 46; refine (CB.out _ _ _ (by simp) hq).mono ?_; intro e x hA; obtain ⟨F3, rfl, hS⟩ := hq.add hA; have ST2 := Go.Lib.hid hS; clear hA hS c6 c7 hq ST1; obtain ⟨-, -, -, -, -, -, c6, c7, -⟩ := ST2.out.b9.cells))
  replace ST := ST2
  go_wp2_with (first
    | (go_at_call 20; refine (wbytes_any _ _ _ _ _ ST.out.wr (by simp)).mono ?_; rintro e y ⟨A1, c1, rfl, ho, hy⟩; have HO := Go.Lib.hid (own_base ho ST.out.low.size); have HY := Go.Lib.hid (ST.out.low.trans (hy.mono ST.out.low.size)); clear ho hy))
  go_ret
  exact ⟨A1, c1, rfl, HO.out, HY.out⟩
set_option maxRecDepth 100000 in
set_option maxHeartbeats 2000000 in
theorem pval8 (h o : Int) (vp vc : Value) (hp md pr ag ai : Nat) (w : World) (cm : List Nat) (hC : U32s w vc cm) (hl : cm.length ≤ 100000) : Calls Tryz.prog 18 #[.agg #[.int .i64 h, .int .i64 o, vp, .int .u32 hp, .int .u32 md, .int .u32 pr, .int .u32 ag, .int .u32 ai, vc], .int .i64 8] w (Gives8 (fours cm) w) := by
  have ST := Go.Lib.hid (val_start w (.int .i64 h) (.int .i64 o) (vp) (.int .u32 hp) (.int .u32 md) (.int .u32 pr) (.int .u32 ag) (.int .u32 ai) (vc))
  obtain ⟨c0, c1, c2, c3, c4, c5, c6, c7, c8⟩ := ST.out.b9.cells
  have HC := Go.Lib.hid hC
  have HL := Go.Lib.hid hl
  clear hC hl
  go_enter Tryz.func18, Tryz.ntmps18
  go_wp2_with (first
    | (go_at_call 45; first | (refine (putAll_any _ _ _ [] cm _ _ ST.out.wr (fun W' ho => HC.out.keep (ST.out.low.trans (ho.below (fun k hk => (ST.out.wr.lt k hk).1) ST.out.low.size))) (by have := HL.out; simp; omega) ST.out.low.size).mono ?_; rintro e x ⟨rfl, F2, hS⟩; replace ST := Go.Lib.hid (ST.out.wst hS); clear hS c0 c1 c2 c3 c4 c5 c6 c7 c8) | (trace "FELL"; trace_state; fail_if_success skip))
    | (go_at_call 20; first | (refine (wbytes_any _ _ _ _ _ ST.out.wr (by have := HL.out; rw [List.nil_append, fours_len]; omega)).mono ?_; rintro e y ⟨A1, c1, rfl, ho, hy⟩; have HO := Go.Lib.hid (own_base ho ST.out.low.size); have HY := Go.Lib.hid (ST.out.low.trans (hy.mono ST.out.low.size)); clear ho hy) | (trace "FELL"; trace_state; fail_if_success skip)))
  go_ret
  exact ⟨A1, c1, rfl, HO.out, HY.out⟩
structure SegSt (w0 : World) (P : Value) (B : Nat) (x0 x1 x2 x3 x4 x5 x6 x7 x8 : Value) (C : Nat) (k x : Value) (l : List Nat) (F : Nat → Prop) (W : World) : Prop where
  v : ValSt w0 P B x0 x1 x2 x3 x4 x5 x6 x7 x8 l F W
  n2 : ¬ F C
  blk : W.heap[C]? = some (.cells #[k, x] 69)
section
variable {w0 W W2 : World} {P v : Value} {B C : Nat} {x0 x1 x2 x3 x4 x5 x6 x7 x8 k x : Value} {l l2 : List Nat} {F F2 : Nat → Prop} {e : Ending}
theorem SegSt.lt (h : SegSt w0 P B x0 x1 x2 x3 x4 x5 x6 x7 x8 C k x l F W) : C < W.heap.size := (Array.getElem?_eq_some_iff.1 h.blk).1
theorem SegSt.below (h : SegSt w0 P B x0 x1 x2 x3 x4 x5 x6 x7 x8 C k x l F W) (hb : Below W.heap.size W W2) : SegSt w0 P B x0 x1 x2 x3 x4 x5 x6 x7 x8 C k x l F W2 :=
  ⟨h.v.below hb, h.n2, (hb.block C h.lt).trans h.blk⟩
theorem SegSt.wst (h : SegSt w0 P B x0 x1 x2 x3 x4 x5 x6 x7 x8 C k x l F W) (q : Wst w0.heap.size P F W l2 F2 W2) : SegSt w0 P B x0 x1 x2 x3 x4 x5 x6 x7 x8 C k x l2 F2 W2 := by
  refine ⟨h.v.wst q, fun hf => ?_, (q.on.block C h.lt h.n2).trans h.blk⟩
  rcases q.gr C hf with r | r
  · exact h.n2 r
  · have := h.lt; omega
theorem SegSt.add (h : SegSt w0 P B x0 x1 x2 x3 x4 x5 x6 x7 x8 C k x l F W) (q : AddF w0.heap.size P v l2 F W e W2) : ∃ F2, e = .returned v ∧ SegSt w0 P B x0 x1 x2 x3 x4 x5 x6 x7 x8 C k x l2 F2 W2 := by
  obtain ⟨F2, h1, h2⟩ := (Wst.new h.v.wr).add q
  exact ⟨F2, h1, h.wst h2⟩
theorem SegSt.cells (h : SegSt w0 P B x0 x1 x2 x3 x4 x5 x6 x7 x8 C k x l F W) : W.cell? ⟨C, 0, none⟩ = some k ∧ W.cell? ⟨C, 1, none⟩ = some x := cell0 h.blk
theorem SegSt.start (h : ValSt w0 P B x0 x1 x2 x3 x4 x5 x6 x7 x8 l F W) : SegSt w0 P B x0 x1 x2 x3 x4 x5 x6 x7 x8 W.heap.size k x l F (W.alloc (.cells #[k, x] 69)) :=
  ⟨h.below ((Below.refl _ _).alloc (Nat.le_refl _) _), fun hf => by have := (h.wr.lt _ hf).2; omega, heap_alloc_new _ _⟩
end
theorem pathB_take {p : List Piece} {j : Nat} {s : Piece} (h : p[j]? = some s) : pathB (p.take (j + 1)) = pathB (p.take j) ++ segB s := by
  rw [List.take_add_one, h, Option.toList_some, pathB_append]
  simp [pathB]
set_option maxRecDepth 100000 in
set_option maxHeartbeats 2000000 in
theorem pval2 (h o : Int) (vp vc : Value) (hp md pr ag ai : Nat) (w : World) (p : List Piece) (hP : Segs w vp p) (hp1 : p.length ≤ 10000) (hp2 : lens p ≤ 20000) : Calls Tryz.prog 18 #[.agg #[.int .i64 h, .int .i64 o, vp, .int .u32 hp, .int .u32 md, .int .u32 pr, .int .u32 ag, .int .u32 ai, vc], .int .i64 2] w (Gives8 (pathB p) w) := by
  have ST := Go.Lib.hid (val_start w (.int .i64 h) (.int .i64 o) (vp) (.int .u32 hp) (.int .u32 md) (.int .u32 pr) (.int .u32 ag) (.int .u32 ai) (vc))
  obtain ⟨c0, c1, c2, c3, c4, c5, c6, c7, c8⟩ := ST.out.b9.cells
  have HP := Go.Lib.hid hP
  have HL := Go.Lib.hid (And.intro hp1 hp2)
  obtain ⟨Ap, cp, rfl, -, -⟩ := hP.form
  clear hP hp1 hp2
  go_enter Tryz.func18, Tryz.ntmps18
  go_wp2
  clear c0 c1 c2 c3 c4 c5 c6 c7 c8
  go_loopw [19] (fun v19 wx => ∃ (j : Nat) (F : Nat → Prop), j ≤ p.length ∧ v19 = .int .i64 j ∧ Hid (ValSt w (.pointer (some ⟨w.heap.size + 1, 0, none⟩)) w.heap.size (.int .i64 h) (.int .i64 o) (.slice Ap p.length cp) (.int .u32 hp) (.int .u32 md) (.int .u32 pr) (.int .u32 ag) (.int .u32 ai) (vc) (pathB (p.take j)) F wx)) (fun v19 _ => p.length - (intOf v19).toNat)
  case atStart => exact ⟨0, _, Nat.zero_le _, rfl, ST⟩
  case round =>
    obtain ⟨j, F, hj, rfl, SJ⟩ := hrel
    have hpl := HL.out.1
    by_cases hlt : j < p.length
    · obtain ⟨sg, hs⟩ : ∃ s, p[j]? = some s := ⟨_, List.getElem?_eq_getElem hlt⟩
      obtain ⟨b, off, x, e', hbl, k1, k2, hx⟩ := HP.out.at_ hs
      subst e'
      replace k1 := keeps SJ.out.low k1
      replace k2 := keeps SJ.out.low k2
      obtain ⟨Ax, cx, rfl, -, -, -, -⟩ := hx.open_
      have HT := Go.Lib.hid (pathB_take hs)
      have HX := Go.Lib.hid hx
      have HLN := Go.Lib.hid (show (pathB (p.take j)).length ≤ 100000 by
        have h1 := pathB_len (p.take j)
        have h2 := lens_take_le p j
        have h3 := HL.out
        rw [h1, List.length_take]
        omega)
      have HSN := Go.Lib.hid (show sg.2.length ≤ 20000 by
        have h1 := lens_take hs
        have h2 := lens_take_le p (j + 1)
        have h3 := HL.out
        omega)
      obtain ⟨m, hm⟩ : ∃ m, m = sg.2.length := ⟨_, rfl⟩
      obtain ⟨ks, hks⟩ : ∃ ks, ks = sg.1 := ⟨_, rfl⟩
      have HSB := Go.Lib.hid (show segB sg = [lo8 ks] ++ ([lo8 (m : Int)] ++ fours sg.2) by rw [hm, hks]; rfl)
      rw [← hm] at k2 HX
      rw [← hks] at k1
      have z0 : (0 : Int) ≤ (j : Int) := by omega
      have z1 : (j : Int) < (p.length : Int) := by omega
      have G0 := Go.Lib.hid ((SegSt.start SJ.out (k := .int .i64 ks) (x := .slice Ax m cx)).below (Below.refl _ _).drew)
      obtain ⟨q0, q1⟩ := G0.out.cells
      clear hs hx hm hks
      go_wp2
      have CA := Go.Lib.hid (fun W (F : Nat → Prop) (l : List Nat) (n : Int) (hl : l.length ≤ 700000) (h : Wr W w.heap.size (.pointer (some ⟨w.heap.size + 1, 0, none⟩)) l F) (hb : w.heap.size ≤ W.heap.size) => w8_put _ _ l F n W h (by omega) hb)
      go_region_held3 (fun w' => w'.cell? ⟨wr.heap.size, 0, none⟩ = some (.int .i64 ks) ∧ w'.cell? ⟨wr.heap.size, 1, none⟩ = some (.slice Ax m cx)) (exact ⟨by assumption, by assumption⟩) (first
        | (have hq := G0.out; go_at_call 44; refine (CA.out _ _ _ _ (by have := HLN.out; omega) hq.v.wr hq.v.low.size).mono ?_; intro e x hA; obtain ⟨F2, rfl, hS⟩ := hq.add hA; have G1 := Go.Lib.hid hS; clear hA hS q0 q1 hq G0; obtain ⟨q0, q1⟩ := G1.out.cells)
        | (have hq := G1.out; go_at_call 44; refine (CA.out _ _ _ _ (by have := HLN.out; simp; omega) hq.v.wr hq.v.low.size).mono ?_; intro e x hA; obtain ⟨F3, rfl, hS⟩ := hq.add hA; have G2 := Go.Lib.hid hS; clear hA hS q0 q1 hq G1; obtain ⟨q0, q1⟩ := G2.out.cells))
      go_wp2_with (go_at_call 45; first | (refine (putAll_any _ _ _ _ sg.2 _ _ G2.out.v.wr (fun W' ho => HX.out.keep (G2.out.v.low.trans (ho.below (fun k hk => (G2.out.v.wr.lt k hk).1) G2.out.v.low.size))) (by have h1 := HLN.out; have h2 := HSN.out; simp; omega) G2.out.v.low.size).mono ?_; rintro e x ⟨rfl, F4, hS⟩; have G3 := Go.Lib.hid (G2.out.v.wst hS); clear hS q0 q1 G2) | (trace "FELL"; trace_state; fail_if_success skip))
      go_roundw
      case rel =>
        refine ⟨j + 1, F4, hlt, by go_num, Go.Lib.hid ?_⟩
        rw [HT.out, HSB.out, ← List.append_assoc, ← List.append_assoc]
        exact G3.out
      case measure => simp [intOf]; omega
    · obtain rfl : j = p.length := by omega
      have z1 : decide ((p.length : Int) < (p.length : Int)) = false := by simp
      rw [List.take_length] at SJ
      go_wp2_with (go_at_call 20; first | (refine (wbytes_any _ _ _ _ _ SJ.out.wr (by have := HL.out; rw [pathB_len]; omega)).mono ?_; rintro e y ⟨A1, c1, rfl, ho, hy⟩; have HO := Go.Lib.hid (own_base ho SJ.out.low.size); have HY := Go.Lib.hid (SJ.out.low.trans (hy.mono SJ.out.low.size)); clear ho hy) | (trace "FELL"; trace_state; fail_if_success skip))
      go_ret
      exact ⟨A1, c1, rfl, HO.out, HY.out⟩
end Go.Proofs.YtanmepgplpijkaaGreatDoor.Att
namespace Go.Proofs.YtanmepgplpijkaaGreatDoor.Att
open Go.RowKit Mem Segm Oct
theorem value_any (v : Value) (a : At) (k : Nat) (w : World) (hv : Attrs w v a) (h1 : 1 ≤ k) (h8 : k ≤ 8) (hp1 : a.path.length ≤ 10000) (hp2 : lens a.path ≤ 20000) (hc : a.comms.length ≤ 100000) :
    Calls Tryz.prog 18 #[v, .int .i64 k] w (Gives8 (valB a k) w) := by
  obtain ⟨_, vp, vc, rfl, hP, hC⟩ := hv
  have hk : k = 1 ∨ k = 2 ∨ k = 3 ∨ k = 4 ∨ k = 5 ∨ k = 6 ∨ k = 7 ∨ k = 8 := by omega
  rcases hk with rfl | rfl | rfl | rfl | rfl | rfl | rfl | rfl
  · exact pval1 a.has a.origin vp vc a.hop a.med a.pref a.aas a.aid w
  · exact pval2 a.has a.origin vp vc a.hop a.med a.pref a.aas a.aid w a.path hP hp1 hp2
  · exact pval3 a.has a.origin vp vc a.hop a.med a.pref a.aas a.aid w
  · exact pval4 a.has a.origin vp vc a.hop a.med a.pref a.aas a.aid w
  · exact pval5 a.has a.origin vp vc a.hop a.med a.pref a.aas a.aid w
  · exact pval6 a.has a.origin vp vc a.hop a.med a.pref a.aas a.aid w
  · exact pval7 a.has a.origin vp vc a.hop a.med a.pref a.aas a.aid w
  · exact pval8 a.has a.origin vp vc a.hop a.med a.pref a.aas a.aid w a.comms hC hc
structure ItSt (base : Nat) (P : Value) (F0 : Nat → Prop) (s : World) (C : Nat) (x0 x1 x2 : Value) (l : List Nat) (F : Nat → Prop) (W : World) : Prop where
  ws : Wst base P F0 s l F W
  nf : ¬ F C
  bx : Box3 W C 50 x0 x1 x2
section
variable {base C : Nat} {P v x0 x1 x2 : Value} {F0 F F2 : Nat → Prop} {s W W2 : World} {l l2 : List Nat} {e : Ending}
theorem ItSt.below (h : ItSt base P F0 s C x0 x1 x2 l F W) (hb : Below W.heap.size W W2) : ItSt base P F0 s C x0 x1 x2 l F W2 := ⟨h.ws.below hb, h.nf, h.bx.keep hb⟩
theorem ItSt.wst (h : ItSt base P F0 s C x0 x1 x2 l F W) (k : Wst base P F W l2 F2 W2) : ItSt base P F0 s C x0 x1 x2 l2 F2 W2 := by
  refine ⟨h.ws.then_ k, fun hf => ?_, ⟨(k.on.block C h.bx.lt h.nf).trans h.bx.blk⟩⟩
  rcases k.gr C hf with q | q
  · exact h.nf q
  · have := h.bx.lt; omega
theorem ItSt.add (h : ItSt base P F0 s C x0 x1 x2 l F W) (k : AddF base P v l2 F W e W2) : ∃ F2, e = .returned v ∧ ItSt base P F0 s C x0 x1 x2 l2 F2 W2 := by
  obtain ⟨F2, h1, h2⟩ := (Wst.new h.ws.wr).add k
  exact ⟨F2, h1, h.wst h2⟩
theorem ItSt.start (h : Wr s base P l F) (x0 x1 x2 : Value) : ItSt base P F s s.heap.size x0 x1 x2 l F (s.alloc (.cells #[x0, x1, x2] 50)) :=
  ⟨(Wst.new h).below ((Below.refl _ _).alloc (Nat.le_refl _) _), fun hf => by have := (h.lt _ hf).2; omega, Box3.new _ _ _ _ _⟩
end
theorem lo8_byte {n : Nat} (h : n < 256) : lo8 (n : Int) = n := by unfold lo8; omega
theorem item_short {f k : Nat} {m : List Nat} (h : ¬ f / 16 % 2 = 1) (hf : f < 256) (hk : k < 256) (hm : m.length ≤ 255) : itemB f k m = [lo8 (f : Int)] ++ ([lo8 (k : Int)] ++ sizedS m) := by
  unfold itemB sizedS
  rw [if_neg h, if_pos hm, lo8_byte hf, lo8_byte hk, lo8_byte (by omega)]
  rfl
theorem item_long {f k : Nat} {m : List Nat} (h : f / 16 % 2 = 1) (hf : f < 256) (hk : k < 256) (hm : m.length ≤ 65535) : itemB f k m = [lo8 (f : Int)] ++ ([lo8 (k : Int)] ++ longS m) := by
  unfold itemB longS
  rw [if_pos h, if_pos hm, lo8_byte hf, lo8_byte hk, big2, show lo8 ((m.length : Int) / 256) = m.length / 256 % 256 by unfold lo8; omega, show lo8 (m.length : Int) = m.length % 256 by unfold lo8; omega]
  rfl
set_option maxRecDepth 100000 in
set_option maxHeartbeats 2000000 in
theorem put_short (P : Value) (A : Option Addr) (c base f k : Nat) (l m : List Nat) (F0 : Nat → Prop) (s : World) (hW : Wr s base P l F0) (hx : ∀ W, Only F0 s W → U8s W (.slice A m.length c) m) (hlen : l.length + m.length ≤ 700000) (hbase : base ≤ s.heap.size) (hf : f < 256) (hk : k < 256) (hm : m.length ≤ 255) (hc : ¬ f / 16 % 2 = 1) :
    Calls Tryz.prog 19 #[.agg #[.int .i64 f, .int .i64 k, .slice A m.length c], P] s (fun e w' => e = .returned (.tuple #[]) ∧ ∃ F', Wst base P F0 s (l ++ itemB f k m) F' w') := by
  rw [item_short hc hf hk hm]
  have n16 : bits .and .i64 (f : Int) 16 = 0 := by rw [byte16 f hf, if_neg hc]
  have G0 := Go.Lib.hid ((ItSt.start hW (.int .i64 f) (.int .i64 k) (.slice A m.length c)).below (Below.refl _ _).drew)
  have hW0 := hW
  obtain ⟨bP, sP, rfl, -⟩ := hW0
  obtain ⟨q0, q1, q2⟩ := G0.out.bx.cells
  have HB := Go.Lib.hid (show s.heap.size + 1 ≤ _ from G0.out.bx.lt)
  have HBS := Go.Lib.hid hbase
  have HX := Go.Lib.hid hx
  have HN := Go.Lib.hid hlen
  have CA := Go.Lib.hid (fun W (F : Nat → Prop) (l : List Nat) (n : Int) (hl : l.length ≤ 800000) (h : Wr W base (.pointer (some ⟨bP, 0, none⟩)) l F) (hb : base ≤ W.heap.size) => w8_put _ _ l F n W h (by omega) hb)
  have HM := Go.Lib.hid hm
  clear hx hW hlen hbase hf hk hm hc
  go_enter Tryz.func19, Tryz.ntmps19
  go_wp2
  go_region_held3 (fun w' => w'.cell? ⟨s.heap.size, 0, none⟩ = some (.int .i64 f) ∧ w'.cell? ⟨s.heap.size, 1, none⟩ = some (.int .i64 k)) (exact ⟨by assumption, by assumption⟩) (first
    | (have hq := G0.out; go_at_call 44; refine (CA.out _ _ _ _ (by have := HN.out; omega) hq.ws.wr (Nat.le_trans HBS.out hq.ws.size)).mono ?_; intro e x hA; obtain ⟨F2, rfl, hS⟩ := hq.add hA; have G1 := Go.Lib.hid hS; clear hA hS q0 q1 q2 hq G0; obtain ⟨q0, q1, q2⟩ := G1.out.bx.cells)
    | (have hq := G1.out; go_at_call 44; refine (CA.out _ _ _ _ (by have := HN.out; simp; omega) hq.ws.wr (Nat.le_trans HBS.out hq.ws.size)).mono ?_; intro e x hA; obtain ⟨F3, rfl, hS⟩ := hq.add hA; have G2 := Go.Lib.hid hS; clear hA hS q0 q1 q2 hq G1; obtain ⟨q0, q1, q2⟩ := G2.out.bx.cells))
  go_wp2_with (go_at_call 48; first | (refine (sizedO_any _ A c base _ m F3 _ G2.out.ws.wr (fun W' ho => HX.out W' (G2.out.ws.only ho)) (by have := HN.out; simp; omega) (Nat.le_trans HBS.out G2.out.ws.size)).mono ?_; intro e x hA; obtain ⟨F4, rfl, hS⟩ := G2.out.add hA; have G3 := Go.Lib.hid hS; clear hA hS q0 q1 q2) | (trace "FELL"; trace_state; fail_if_success skip))
  go_end0
  refine ⟨rfl, F4, ?_⟩
  have h := G3.out.ws
  rw [List.append_assoc, List.append_assoc] at h
  exact h
set_option maxRecDepth 100000 in
set_option maxHeartbeats 2000000 in
theorem put_long (P : Value) (A : Option Addr) (c base f k : Nat) (l m : List Nat) (F0 : Nat → Prop) (s : World) (hW : Wr s base P l F0) (hx : ∀ W, Only F0 s W → U8s W (.slice A m.length c) m) (hlen : l.length + m.length ≤ 700000) (hbase : base ≤ s.heap.size) (hf : f < 256) (hk : k < 256) (hm : m.length ≤ 65535) (hc : f / 16 % 2 = 1) :
    Calls Tryz.prog 19 #[.agg #[.int .i64 f, .int .i64 k, .slice A m.length c], P] s (fun e w' => e = .returned (.tuple #[]) ∧ ∃ F', Wst base P F0 s (l ++ itemB f k m) F' w') := by
  rw [item_long hc hf hk hm]
  have n16 : bits .and .i64 (f : Int) 16 = 16 := by rw [byte16 f hf, if_pos hc]
  have G0 := Go.Lib.hid ((ItSt.start hW (.int .i64 f) (.int .i64 k) (.slice A m.length c)).below (Below.refl _ _).drew)
  have hW0 := hW
  obtain ⟨bP, sP, rfl, -⟩ := hW0
  obtain ⟨q0, q1, q2⟩ := G0.out.bx.cells
  have HB := Go.Lib.hid (show s.heap.size + 1 ≤ _ from G0.out.bx.lt)
  have HBS := Go.Lib.hid hbase
  have HX := Go.Lib.hid hx
  have HN := Go.Lib.hid hlen
  have CA := Go.Lib.hid (fun W (F : Nat → Prop) (l : List Nat) (n : Int) (hl : l.length ≤ 800000) (h : Wr W base (.pointer (some ⟨bP, 0, none⟩)) l F) (hb : base ≤ W.heap.size) => w8_put _ _ l F n W h (by omega) hb)
  have HM := Go.Lib.hid hm
  clear hx hW hlen hbase hf hk hm hc
  go_enter Tryz.func19, Tryz.ntmps19
  go_wp2
  go_region_held3 (fun w' => w'.cell? ⟨s.heap.size, 0, none⟩ = some (.int .i64 f) ∧ w'.cell? ⟨s.heap.size, 1, none⟩ = some (.int .i64 k)) (exact ⟨by assumption, by assumption⟩) (first
    | (have hq := G0.out; go_at_call 44; refine (CA.out _ _ _ _ (by have := HN.out; omega) hq.ws.wr (Nat.le_trans HBS.out hq.ws.size)).mono ?_; intro e x hA; obtain ⟨F2, rfl, hS⟩ := hq.add hA; have G1 := Go.Lib.hid hS; clear hA hS q0 q1 q2 hq G0; obtain ⟨q0, q1, q2⟩ := G1.out.bx.cells)
    | (have hq := G1.out; go_at_call 44; refine (CA.out _ _ _ _ (by have := HN.out; simp; omega) hq.ws.wr (Nat.le_trans HBS.out hq.ws.size)).mono ?_; intro e x hA; obtain ⟨F3, rfl, hS⟩ := hq.add hA; have G2 := Go.Lib.hid hS; clear hA hS q0 q1 q2 hq G1; obtain ⟨q0, q1, q2⟩ := G2.out.bx.cells))
  go_wp2_with (go_at_call 47; first | (refine (longO_any _ A c base _ m F3 _ G2.out.ws.wr (fun W' ho => HX.out W' (G2.out.ws.only ho)) (by have := HN.out; simp; omega) (Nat.le_trans HBS.out G2.out.ws.size)).mono ?_; intro e x hA; obtain ⟨F4, rfl, hS⟩ := G2.out.add hA; have G3 := Go.Lib.hid hS; clear hA hS q0 q1 q2) | (trace "FELL"; trace_state; fail_if_success skip))
  go_end0
  refine ⟨rfl, F4, ?_⟩
  have h := G3.out.ws
  rw [List.append_assoc, List.append_assoc] at h
  exact h
theorem put_item (P : Value) (A : Option Addr) (c base f k : Nat) (l m : List Nat) (F0 : Nat → Prop) (s : World) (hW : Wr s base P l F0) (hx : ∀ W, Only F0 s W → U8s W (.slice A m.length c) m) (hlen : l.length + m.length ≤ 700000) (hbase : base ≤ s.heap.size) (hf : f < 256) (hk : k < 256) (hm : m.length ≤ 65535) (hc : 255 < m.length → f / 16 % 2 = 1) :
    Calls Tryz.prog 19 #[.agg #[.int .i64 f, .int .i64 k, .slice A m.length c], P] s (fun e w' => e = .returned (.tuple #[]) ∧ ∃ F', Wst base P F0 s (l ++ itemB f k m) F' w') := by
  by_cases h : f / 16 % 2 = 1
  · exact put_long P A c base f k l m F0 s hW hx hlen hbase hf hk hm h
  · exact put_short P A c base f k l m F0 s hW hx hlen hbase hf hk (by
      rcases Nat.lt_or_ge 255 m.length with q | q
      · exact absurd (hc q) h
      · exact q) h
end Go.Proofs.YtanmepgplpijkaaGreatDoor.Att
namespace Go.Proofs.YtanmepgplpijkaaGreatDoor.Att
open Go.RowKit Mem Segm Oct
attribute [local go_sem ↓] Go.wp_at_zero Go.wp_at_succ
structure BxSt (w0 : World) (x0 x1 x2 x3 x4 x5 x6 x7 x8 : Value) (v : Value) (n : Nat) (l : List Nat) (W : World) : Prop where
  b9 : Box9 W w0.heap.size 26 x0 x1 x2 x3 x4 x5 x6 x7 x8
  own : W.ownsRow (w0.heap.size + 1) 5 1 v n (cells8 l)
  low : Below w0.heap.size w0 W
section
variable {w0 W W2 : World} {x0 x1 x2 x3 x4 x5 x6 x7 x8 v v2 : Value} {l l2 : List Nat} {n n2 : Nat}
theorem BxSt.below (h : BxSt w0 x0 x1 x2 x3 x4 x5 x6 x7 x8 v n l W) (hb : Below W.heap.size W W2) : BxSt w0 x0 x1 x2 x3 x4 x5 x6 x7 x8 v n l W2 :=
  ⟨h.b9.keep hb, own_keep h.own hb, h.low.trans (hb.mono h.low.size)⟩
theorem BxSt.grow (h : BxSt w0 x0 x1 x2 x3 x4 x5 x6 x7 x8 v n l W) (hg : W.grownBy W2 v.ownBlock) (ho : W2.ownsRow (w0.heap.size + 1) 5 1 v2 n2 (cells8 l2)) : BxSt w0 x0 x1 x2 x3 x4 x5 x6 x7 x8 v2 n2 l2 W2 :=
  ⟨⟨(hg.block _ h.b9.lt (fun he => by have := (h.own.lt _ he.symm).1; omega)).trans h.b9.blk⟩, ho, h.low.trans (below_of_grown h.own hg h.b9.lt |>.mono (Nat.le_succ _))⟩
theorem bx_start (w : World) (x0 x1 x2 x3 x4 x5 x6 x7 x8 : Value) : BxSt w x0 x1 x2 x3 x4 x5 x6 x7 x8 (.slice (some ⟨w.heap.size + 1, 0, none⟩) 0 0) 0 [] ((w.alloc (.cells #[x0, x1, x2, x3, x4, x5, x6, x7, x8] 26)).alloc (.cells #[] 5)) := by
  have hb : Below w.heap.size w (w.alloc (.cells #[x0, x1, x2, x3, x4, x5, x6, x7, x8] 26)) := (Below.refl _ w).alloc (Nat.le_refl _) _
  have hs : (w.alloc (.cells #[x0, x1, x2, x3, x4, x5, x6, x7, x8] 26)).heap.size = w.heap.size + 1 := by simp
  refine ⟨(Box9.new w _ x0 x1 x2 x3 x4 x5 x6 x7 x8).keep ((Below.refl _ _).alloc (Nat.le_refl _) _), ?_, hb.alloc hb.size _⟩
  exact own_blk (Nat.le_refl _) (by rw [← hs]; exact heap_alloc_new _ _)
end
set_option maxRecDepth 100000 in
set_option maxHeartbeats 2000000 in
theorem val7 (h o : Int) (vp vc : Value) (hp md pr ag ai : Nat) (w : World) (ha : ag < 4294967296) (hi : ai < 4294967296) : Calls Tryz.prog 25 #[.agg #[.int .i64 h, .int .i64 o, vp, .int .u32 hp, .int .u32 md, .int .u32 pr, .int .u32 ag, .int .u32 ai, vc], .int .i64 7] w (Gives8 (big ag 4 ++ big ai 4) w) := by
  obtain ⟨i0, E0⟩ := elem8
  have HC := Go.Lib.hid (Box9.new w 26 (.int .i64 h) (.int .i64 o) vp (.int .u32 hp) (.int .u32 md) (.int .u32 pr) (.int .u32 ag) (.int .u32 ai) vc)
  have HB := Go.Lib.hid ((Below.refl _ w).alloc (Nat.le_refl _) (.cells #[.int .i64 h, .int .i64 o, vp, .int .u32 hp, .int .u32 md, .int .u32 pr, .int .u32 ag, .int .u32 ai, vc] 26))
  have CB := Go.Lib.hid (fun (n : Nat) (hn : n < 4294967296) W => show Calls Tryz.prog 27 #[.int .u64 n, .int .i64 4] W (fun e w' => ∃ A c, e = .returned (.slice A 4 c) ∧ w'.ownsRow W.heap.size 5 1 (.slice A 4 c) 4 (cells8 (big n 4)) ∧ Below W.heap.size W w') from (big_any n 4 W (by omega) (by omega)).mono fun e w' h => by
    obtain ⟨A, c, h1, h2, h3⟩ := h
    rw [big_len] at h1 h2
    exact ⟨A, c, h1, h2, h3⟩)
  have wa : IntKind.u64.wrap (ag : Int) = (ag : Int) := by rw [IntKind.wrap_u64]; omega
  have wi : IntKind.u64.wrap (ai : Int) = (ai : Int) := by rw [IntKind.wrap_u64]; omega
  have CA := Go.Lib.hid (CB.out ag ha)
  have CI := Go.Lib.hid (CB.out ai hi)
  obtain ⟨W0, hW0⟩ : ∃ W0, W0 = w.alloc (.cells #[.int .i64 h, .int .i64 o, vp, .int .u32 hp, .int .u32 md, .int .u32 pr, .int .u32 ag, .int .u32 ai, vc] 26) := ⟨_, rfl⟩
  rw [← hW0] at HC HB
  have HC2 := Go.Lib.hid (HC.out.keep ((Below.refl _ _).alloc (Nat.le_refl _) (.cells #[] 5)))
  have HB2 := Go.Lib.hid (HB.out.alloc HB.out.size (.cells #[] 5))
  rw [hW0] at HB2 HC2
  clear hW0 ha hi CB HB HC
  go_enter Tryz.func25, Tryz.ntmps25
  go_wp2
  have D0 := Go.Lib.hid (HC2.out.keep ((Below.refl _ _).drew))
  have B0 := Go.Lib.hid (HB2.out.trans ((Below.refl _ _).drew.mono HB2.out.size))
  obtain ⟨-, -, -, -, -, -, c6, c7, -⟩ := D0.out.cells
  go_region_held3 (fun w' => w'.cell? ⟨w.heap.size, 6, none⟩ = some (.int .u32 ag) ∧ w'.cell? ⟨w.heap.size, 7, none⟩ = some (.int .u32 ai)) (exact ⟨by assumption, by assumption⟩) (first
    | (have hq := D0.out; go_at_call 27; refine (CA.out _).mono ?_; rintro e x ⟨A1, q1, rfl, hu, hb⟩; have HU1 := Go.Lib.hid (own_base hu (show w.heap.size + 1 ≤ _ from hq.lt)); have D1 := Go.Lib.hid (hq.keep hb); have B1 := Go.Lib.hid (B0.out.trans (hb.mono B0.out.size)); clear hu hb hq D0 B0 c6 c7; obtain ⟨-, -, -, -, -, -, c6, c7, -⟩ := D1.out.cells)
    | (have hq := D1.out; go_at_call 27; refine (CI.out _).mono ?_; rintro e x ⟨A2, q2, rfl, hu, hb⟩; have HR2 := Go.Lib.hid (Row.of_own hu); have D2 := Go.Lib.hid (hq.keep hb); have B2 := Go.Lib.hid (B1.out.trans (hb.mono B1.out.size)); have HU2 := Go.Lib.hid (own_keep HU1.out hb); clear hu hb hq D1 B1 HU1 c6 c7; obtain ⟨-, -, -, -, -, -, c6, c7, -⟩ := D2.out.cells)
    | (have tok := HR2.out
       refine step_append_row (by rfl) (.tmp 92) (.tmp 96) (by rfl) E0 (w.heap.size + 1) _ 4 (cells8 (big ag 4)) (by rfl) ?_ _ 4 (cells8 (big ai 4)) (by rfl) ?_ (ones8 _) ?_ ?_ ?_ 8 (by rfl) ?_
       · exact HU2.out
       · exact tok
       · unfold maxLen; omega
       · omega
       · exact D2.out.lt
       intro A3 q3 x3 hown hgr hat hb1
       have HU3 := Go.Lib.hid hown
       have D3 := Go.Lib.hid (Box9.mk ((hgr.block _ D2.out.lt (fun he => by have := HU2.out.lt _ he.symm; omega)).trans D2.out.blk) : Box9 x3 w.heap.size _ _ _ _ _ _ _ _ _ _)
       have B3 := Go.Lib.hid (B2.out.trans (hb1.mono (Nat.le_succ _)))
       clear hown hgr hat hb1 tok HR2 HU2 c6 c7
       obtain ⟨-, -, -, -, -, -, c6, c7, -⟩ := D3.out.cells))
  go_wp2
  go_loopw [5, 8] (fun v5 v8 wx => v5 = .slice A3 8 q3 ∧ v8 = .int .i64 0 ∧ wx = x3) (fun _ _ _ => 0)
  case atStart => exact ⟨rfl, rfl, rfl⟩
  case round =>
    obtain ⟨rfl, rfl, rfl⟩ := hrel
    go_wp2
    go_ret
    exact ⟨A3, q3, by rw [List.length_append, big_len, big_len]; rfl, by rw [List.length_append, big_len, big_len, cells8_append]; exact own_base HU3.out (Nat.le_succ _), B3.out⟩
set_option maxRecDepth 100000 in
set_option maxHeartbeats 2000000 in
theorem val8 (h o : Int) (vp vc : Value) (hp md pr ag ai : Nat) (w : World) (cm : List Nat) (hC : U32s w vc cm) (hl : cm.length ≤ 100000) : Calls Tryz.prog 25 #[.agg #[.int .i64 h, .int .i64 o, vp, .int .u32 hp, .int .u32 md, .int .u32 pr, .int .u32 ag, .int .u32 ai, vc], .int .i64 8] w (Gives8 (fours cm) w) := by
  obtain ⟨i0, E0⟩ := elem8
  obtain ⟨Ac, cc, rfl, -, -, -, -⟩ := hC.open_
  have HU := Go.Lib.hid hC
  have HL := Go.Lib.hid hl
  have CB := Go.Lib.hid (fun (n : Nat) (hn : n < 4294967296) W => show Calls Tryz.prog 27 #[.int .u64 n, .int .i64 4] W (fun e w' => ∃ A c, e = .returned (.slice A 4 c) ∧ w'.ownsRow W.heap.size 5 1 (.slice A 4 c) 4 (cells8 (big n 4)) ∧ Below W.heap.size W w') from (big_any n 4 W (by omega) (by omega)).mono fun e w' h => by
    obtain ⟨A, c, h1, h2, h3⟩ := h
    rw [big_len] at h1 h2
    exact ⟨A, c, h1, h2, h3⟩)
  have ST := Go.Lib.hid (bx_start w (.int .i64 h) (.int .i64 o) vp (.int .u32 hp) (.int .u32 md) (.int .u32 pr) (.int .u32 ag) (.int .u32 ai) (.slice Ac cm.length cc))
  clear hC hl
  go_enter Tryz.func25, Tryz.ntmps25
  go_wp2
  go_loopw [5, 8] (fun v5 v8 wx => ∃ (j : Nat) (A : Option Addr) (c : Nat), j ≤ cm.length ∧ v8 = .int .i64 j ∧ v5 = .slice A (4 * j) c ∧ Hid (BxSt w (.int .i64 h) (.int .i64 o) vp (.int .u32 hp) (.int .u32 md) (.int .u32 pr) (.int .u32 ag) (.int .u32 ai) (.slice Ac cm.length cc) (.slice A (4 * j) c) (4 * j) (fours (cm.take j)) wx)) (fun _ v8 _ => cm.length - (intOf v8).toNat)
  case atStart => exact ⟨0, _, _, Nat.zero_le _, rfl, rfl, ST⟩
  case round =>
    obtain ⟨j, A, c, hj, rfl, rfl, SJ⟩ := hrel
    have hcl := HL.out
    obtain ⟨-, -, -, -, -, -, -, -, c8⟩ := SJ.out.b9.cells
    by_cases hlt : j < cm.length
    · obtain ⟨b, off, x, rfl, hbl, hx, hx32, k0⟩ := HU.out.at_ hlt
      replace k0 := keeps SJ.out.low k0
      have z0 : (0 : Int) ≤ (j : Int) := by omega
      have z1 : (j : Int) < (cm.length : Int) := by omega
      have wx : IntKind.u64.wrap (x : Int) = (x : Int) := by rw [IntKind.wrap_u64]; omega
      have CX := Go.Lib.hid (CB.out x hx32)
      have HT := Go.Lib.hid (fours_take hx)
      have hj5 : j ≤ 100000 := by omega
      clear hx hx32
      go_wp2_with (first
        | (go_at_call 27; refine (CX.out _).mono ?_; rintro e w1 ⟨A1, q1, rfl, hu, hb⟩; have HR := Go.Lib.hid (Row.of_own hu); have S1 := Go.Lib.hid (SJ.out.below hb); clear hu hb c8 k0)
        | (at_builtin; refine wpList_append_row rfl (.tmp 109) (.tmp 116) rfl E0 (w.heap.size + 1) _ (4 * j) (cells8 (fours (cm.take j))) rfl S1.out.own _ 4 _ rfl HR.out (ones8 _) (by unfold maxLen; omega) (by omega) (Nat.succ_le_of_lt S1.out.b9.lt) (4 * (j + 1)) (by omega) ?_; intro A2 q2 w2 hown hg hat hb; have S2 := Go.Lib.hid (S1.out.grow (l2 := fours (cm.take j) ++ big x 4) hg (by rw [cells8_append]; exact hown)); clear hown hg hat hb S1 HR))
      go_roundw
      case rel =>
        refine ⟨j + 1, A2, q2, hlt, by go_num, rfl, Go.Lib.hid ?_⟩
        rw [HT.out]
        exact S2.out
      case measure => simp [intOf]; omega
    · obtain rfl : j = cm.length := by omega
      have z1 : decide ((cm.length : Int) < (cm.length : Int)) = false := by simp
      go_wp2
      go_ret
      have hh := SJ.out
      rw [List.take_length] at hh
      exact ⟨A, c, by rw [fours_len]; rfl, by rw [fours_len]; exact own_base hh.own (Nat.le_succ _), hh.low⟩
set_option maxRecDepth 100000 in
set_option maxHeartbeats 4000000 in
theorem val2 (h o : Int) (vp vc : Value) (hp md pr ag ai : Nat) (w : World) (p : List Piece) (hP : Segs w vp p) (hp1 : p.length ≤ 10000) (hp2 : lens p ≤ 20000) : Calls Tryz.prog 25 #[.agg #[.int .i64 h, .int .i64 o, vp, .int .u32 hp, .int .u32 md, .int .u32 pr, .int .u32 ag, .int .u32 ai, vc], .int .i64 2] w (Gives8 (pathB p) w) := by
  obtain ⟨i0, E0⟩ := elem8
  obtain ⟨Ap, cp, rfl, -, -⟩ := hP.form
  have HP := Go.Lib.hid hP
  have HL := Go.Lib.hid (And.intro hp1 hp2)
  have CB := Go.Lib.hid (fun (n : Nat) (hn : n < 4294967296) W => show Calls Tryz.prog 27 #[.int .u64 n, .int .i64 4] W (fun e w' => ∃ A c, e = .returned (.slice A 4 c) ∧ w'.ownsRow W.heap.size 5 1 (.slice A 4 c) 4 (cells8 (big n 4)) ∧ Below W.heap.size W w') from (big_any n 4 W (by omega) (by omega)).mono fun e w' h => by
    obtain ⟨A, c, h1, h2, h3⟩ := h
    rw [big_len] at h1 h2
    exact ⟨A, c, h1, h2, h3⟩)
  have ST := Go.Lib.hid (bx_start w (.int .i64 h) (.int .i64 o) (.slice Ap p.length cp) (.int .u32 hp) (.int .u32 md) (.int .u32 pr) (.int .u32 ag) (.int .u32 ai) vc)
  clear hP hp1 hp2
  go_enter Tryz.func25, Tryz.ntmps25
  go_wp2
  go_loopw [5, 6] (fun v5 v6 wx => ∃ (j n : Nat) (A : Option Addr) (c : Nat), j ≤ p.length ∧ v6 = .int .i64 j ∧ v5 = .slice A n c ∧ Hid (n = (pathB (p.take j)).length) ∧ n ≤ 100000 ∧ Hid (BxSt w (.int .i64 h) (.int .i64 o) (.slice Ap p.length cp) (.int .u32 hp) (.int .u32 md) (.int .u32 pr) (.int .u32 ag) (.int .u32 ai) vc (.slice A n c) n (pathB (p.take j)) wx)) (fun _ v6 _ => p.length - (intOf v6).toNat)
  case atStart => exact ⟨0, 0, _, _, Nat.zero_le _, rfl, rfl, Go.Lib.hid rfl, Nat.zero_le _, ST⟩
  case round =>
    obtain ⟨j, n, A, c, hj, rfl, rfl, HN, hn, SJ⟩ := hrel
    have hpl := HL.out.1
    obtain ⟨-, -, c2, -, -, -, -, -, -⟩ := SJ.out.b9.cells
    by_cases hlt : j < p.length
    · obtain ⟨sg, hs⟩ : ∃ s, p[j]? = some s := ⟨_, List.getElem?_eq_getElem hlt⟩
      obtain ⟨b, off, x, rfl, hbl, k1, k2, hx⟩ := HP.out.at_ hs
      obtain ⟨Ax, cx, rfl, -, -, -, -⟩ := hx.open_
      have HT := Go.Lib.hid (pathB_take hs)
      have HX := Go.Lib.hid hx
      have HNL := Go.Lib.hid (show n + (2 + 4 * sg.2.length) ≤ 100000 by
        have h1 := pathB_len (p.take (j + 1))
        have h2 := lens_take_le p (j + 1)
        have h3 := HL.out
        have h4 := congrArg List.length (pathB_take hs)
        rw [List.length_append, segB_len, ← HN.out, h1, List.length_take] at h4
        omega)
      obtain ⟨m, hm⟩ : ∃ m, m = sg.2.length := ⟨_, rfl⟩
      obtain ⟨ks, hks⟩ : ∃ ks, ks = sg.1 := ⟨_, rfl⟩
      obtain ⟨a1, ha1⟩ : ∃ a, a = lo8 ks := ⟨_, rfl⟩
      obtain ⟨a2, ha2⟩ : ∃ a, a = lo8 (m : Int) := ⟨_, rfl⟩
      have w1 : IntKind.u8.wrap ks = (a1 : Int) := by rw [ha1]; exact wrap_lo8 _
      have w2 : IntKind.u8.wrap (m : Int) = (a2 : Int) := by rw [ha2]; exact wrap_lo8 _
      have HSB := Go.Lib.hid (show segB sg = [a1, a2] ++ fours sg.2 by rw [ha1, ha2, hm, hks]; rfl)
      have HM := Go.Lib.hid hm
      rw [← hm] at k2 HX HNL
      rw [← hks] at k1
      have z0 : (0 : Int) ≤ (j : Int) := by omega
      have z1 : (j : Int) < (p.length : Int) := by omega
      have HKC := Go.Lib.hid (fun (v : Value) (n : Nat) (l : List Nat) (W : World) (hb : BxSt w (.int .i64 h) (.int .i64 o) (.slice (some ⟨b, off, none⟩) p.length cp) (.int .u32 hp) (.int .u32 md) (.int .u32 pr) (.int .u32 ag) (.int .u32 ai) vc v n l W) => (⟨hb.b9.cells.2.2.1, keeps hb.low k1, keeps hb.low k2⟩ : W.cell? ⟨w.heap.size, 2, none⟩ = some (.slice (some ⟨b, off, none⟩) p.length cp) ∧ W.cell? ⟨b, off + j * 2, none⟩ = some (.int .i64 ks) ∧ W.cell? ⟨b, off + j * 2 + 1, none⟩ = some (.slice Ax m cx)))
      have kc := HKC.out _ _ _ _ (SJ.out.below ((Below.refl wr.heap.size wr).drew))
      clear hs hx hm hks ha1 ha2 k1 k2 hbl
      go_wp2
      clear c2
      go_region_held3 (fun w' => w'.cell? ⟨w.heap.size, 2, none⟩ = some (.slice (some ⟨b, off, none⟩) p.length cp) ∧ w'.cell? ⟨b, off + j * 2, none⟩ = some (.int .i64 ks) ∧ w'.cell? ⟨b, off + j * 2 + 1, none⟩ = some (.slice Ax m cx)) (first | assumption | exact HKC.out _ _ _ _ (SJ.out.below (((Below.refl wr.heap.size wr).alloc (Nat.le_refl _) (.cells #[.int .u8 a1, .int .u8 a2] 5)).drew))) (first
        | (have tok := SJ.out.below (((Below.refl wr.heap.size wr).alloc (Nat.le_refl _) (.cells #[.int .u8 a1, .int .u8 a2] 5)).drew)
           refine step_append_row (by rfl) (.tmp 27) (.tmp 43) (by rfl) E0 (w.heap.size + 1) _ n (cells8 (pathB (p.take j))) (by rfl) ?_ _ 2 (cells8 [a1, a2]) (by rfl) ?_ (ones8 _) ?_ ?_ ?_ (n + 2) (by rfl) ?_
           · exact tok.own
           · exact (Row.of_own (World.ownsRow_lit (base := 0) (e := 5) (size := 1) wr #[.int .u8 a1, .int .u8 a2] 2 (Nat.zero_le _) (by decide) rfl)).keep ((Below.refl _ _).drew)
           · unfold maxLen; omega
           · omega
           · exact tok.b9.lt
           intro A1 q1 x1 hown hgr hat hb1
           have S1 := Go.Lib.hid (tok.grow (l2 := pathB (p.take j) ++ [a1, a2]) hgr (by rw [cells8_append]; exact hown))
           replace kc := HKC.out _ _ _ _ S1.out
           clear hown hgr hat hb1 tok))
      obtain ⟨c2, k1, k2⟩ := kc
      go_wp2
      obtain ⟨wo, hwo⟩ : ∃ x, x = x1 := ⟨_, rfl⟩
      subst hwo
      have HS1 := Go.Lib.hid (show BxSt w (.int .i64 h) (.int .i64 o) (.slice (some ⟨b, off, none⟩) p.length cp) (.int .u32 hp) (.int .u32 md) (.int .u32 pr) (.int .u32 ag) (.int .u32 ai) vc (.slice A1 (n + 2) q1) (n + 2) (pathB (p.take j) ++ [a1, a2] ++ fours (sg.2.take 0)) wo by rw [List.take_zero, show fours ([] : List Nat) = [] from rfl, List.append_nil]; exact S1.out)
      clear c2 k1 k2
      go_loopw [5, 7] (fun v5 v7 wx => ∃ (i : Nat) (A : Option Addr) (c : Nat), i ≤ m ∧ v7 = .int .i64 i ∧ v5 = .slice A (n + 2 + 4 * i) c ∧ Hid (BxSt w (.int .i64 h) (.int .i64 o) (.slice (some ⟨b, off, none⟩) p.length cp) (.int .u32 hp) (.int .u32 md) (.int .u32 pr) (.int .u32 ag) (.int .u32 ai) vc (.slice A (n + 2 + 4 * i) c) (n + 2 + 4 * i) (pathB (p.take j) ++ [a1, a2] ++ fours (sg.2.take i)) wx)) (fun _ v7 _ => m - (intOf v7).toNat)
      case atStart => exact ⟨0, A1, q1, Nat.zero_le _, rfl, rfl, HS1⟩
      case round =>
        obtain ⟨i, A2, q2, hi, rfl, rfl, SI⟩ := hrel
        obtain ⟨c2, k1, k2⟩ := HKC.out _ _ _ _ SI.out
        by_cases hil : i < m
        · obtain ⟨b2, off2, y, rfl, hb2, hy, hy32, ky⟩ := (HX.out).at_ (show i < sg.2.length by have := HM.out; omega)
          replace ky := keeps SI.out.low ky
          have y0 : (0 : Int) ≤ (i : Int) := by omega
          have y1 : (i : Int) < (m : Int) := by omega
          have wy : IntKind.u64.wrap (y : Int) = (y : Int) := by rw [IntKind.wrap_u64]; omega
          have CY := Go.Lib.hid (CB.out y hy32)
          have HY := Go.Lib.hid (fours_take hy)
          have hnb : n + 2 + 4 * i + 4 ≤ 1000000 := by have := HNL.out; omega
          clear hy hy32
          go_wp2_with (first
            | (go_at_call 27; refine (CY.out _).mono ?_; rintro e x3 ⟨A3, q3, rfl, hu, hb⟩; have HR := Go.Lib.hid (Row.of_own hu); have S3 := Go.Lib.hid (SI.out.below hb); clear hu hb c2 k1 k2 ky)
            | (at_builtin; refine wpList_append_row rfl (.tmp 56) (.tmp 67) rfl E0 (w.heap.size + 1) _ (n + 2 + 4 * i) _ rfl S3.out.own _ 4 _ rfl HR.out (ones8 _) (by unfold maxLen; omega) (by omega) S3.out.b9.lt (n + 2 + 4 * (i + 1)) (by omega) ?_; intro A4 q4 x4 hown hg hat hb; have S4 := Go.Lib.hid (S3.out.grow (l2 := pathB (p.take j) ++ [a1, a2] ++ fours (sg.2.take i) ++ big y 4) hg (by rw [cells8_append]; exact hown)); clear hown hg hat hb S3 HR))
          go_roundw
          case rel =>
            refine ⟨i + 1, A4, q4, hil, by go_num, rfl, Go.Lib.hid ?_⟩
            rw [HY.out, ← List.append_assoc]
            exact S4.out
          case measure => simp [intOf]; omega
        · obtain rfl : i = m := by omega
          have y1 : decide ((i : Int) < (i : Int)) = false := by simp
          go_wp2
          go_roundw
          case rel =>
            have e := HSB.out
            have e2 := HT.out
            have e3 : pathB (p.take (j + 1)) = pathB (p.take j) ++ [a1, a2] ++ fours (sg.2.take i) := by rw [e2, e, HM.out, List.take_length, List.append_assoc]
            refine ⟨j + 1, n + 2 + 4 * i, A2, q2, hlt, by go_num, rfl, Go.Lib.hid ?_, by have := HNL.out; omega, Go.Lib.hid ?_⟩
            · rw [e3]
              have h1 := SI.out.own.1
              rw [cells8_len, Nat.mul_one] at h1
              exact h1.symm
            · rw [e3]; exact SI.out
          case measure => simp [intOf]; omega
    · obtain rfl : j = p.length := by omega
      have z1 : decide ((p.length : Int) < (p.length : Int)) = false := by simp
      have hh := SJ.out
      have hN := HN.out
      rw [List.take_length] at hh hN
      have HH := Go.Lib.hid hh
      have HN2 := Go.Lib.hid hN
      clear hh hN
      go_wp2
      obtain ⟨wo, hwo⟩ : ∃ x, x = wr := ⟨_, rfl⟩
      subst hwo
      go_loopw [5, 8] (fun v5 v8 wx => v5 = .slice A n c ∧ v8 = .int .i64 0 ∧ wx = wo) (fun _ _ _ => 0)
      case atStart => exact ⟨rfl, rfl, rfl⟩
      case round =>
        obtain ⟨rfl, rfl, rfl⟩ := hrel
        go_wp2
        go_ret
        exact ⟨A, c, by rw [← HN2.out]; rfl, by rw [← HN2.out]; exact own_base HH.out.own (Nat.le_succ _), HH.out.low⟩
end Go.Proofs.YtanmepgplpijkaaGreatDoor.Att
