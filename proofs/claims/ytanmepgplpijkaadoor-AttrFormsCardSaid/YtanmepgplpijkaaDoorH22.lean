/- The program's value of an attribute. The program's put of an attribute, and its value. The program's fits, flagged and numbers. -/
import Derived.Test.YtanmepgplpijkaaDoorH21
import Derived.Test.YtanmepgplpijkaaDoorH06
import Derived.Test.YtanmepgplpijkaaDoorH14
import Derived.Deep.RegionHeld3
import Derived.Test.YtanmepgplpijkaaDoorH03
namespace Go.Proofs.YtanmepgplpijkaaDoor.Att
open Go.RowKit Mem Segm Oct
structure ValSt (w0 : World) (P : Value) (B : Nat) (x0 x1 x2 x3 x4 x5 x6 x7 x8 : Value) (l : List Nat) (F : Nat → Prop) (W : World) : Prop where
  wr : Wr W w0.heap.size P l F
  nb : ¬ F B
  b9 : Box9 W B 26 x0 x1 x2 x3 x4 x5 x6 x7 x8
  low : Below w0.heap.size w0 W
section
variable {w0 W W2 : World} {P v : Value} {B : Nat} {x0 x1 x2 x3 x4 x5 x6 x7 x8 : Value} {l l2 : List Nat} {F F2 : Nat → Prop} {e : Ending}
theorem ValSt.below (h : ValSt w0 P B x0 x1 x2 x3 x4 x5 x6 x7 x8 l F W) (hb : Below W.heap.size W W2) : ValSt w0 P B x0 x1 x2 x3 x4 x5 x6 x7 x8 l F W2 :=
  ⟨h.wr.below hb, h.nb, h.b9.keep hb, h.low.trans (hb.mono h.low.size)⟩
theorem ValSt.wst (h : ValSt w0 P B x0 x1 x2 x3 x4 x5 x6 x7 x8 l F W) (k : Wst w0.heap.size P F W l2 F2 W2) : ValSt w0 P B x0 x1 x2 x3 x4 x5 x6 x7 x8 l2 F2 W2 := by
  refine ⟨k.wr, fun hf => ?_, ⟨(k.on.block B h.b9.lt h.nb).trans h.b9.blk⟩, h.low.trans (k.on.below (fun j hj => (h.wr.lt j hj).1) h.low.size)⟩
  rcases k.gr B hf with q | q
  · exact h.nb q
  · have := h.b9.lt; omega
theorem ValSt.add (h : ValSt w0 P B x0 x1 x2 x3 x4 x5 x6 x7 x8 l F W) (k : AddF w0.heap.size P v l2 F W e W2) : ∃ F2, e = .returned v ∧ ValSt w0 P B x0 x1 x2 x3 x4 x5 x6 x7 x8 l2 F2 W2 := by
  obtain ⟨F2, h1, h2⟩ := (Wst.new h.wr).add k
  exact ⟨F2, h1, h.wst h2⟩
end
theorem val_start (w : World) (x0 x1 x2 x3 x4 x5 x6 x7 x8 : Value) : ValSt w (.pointer (some ⟨w.heap.size + 1, 0, none⟩)) w.heap.size x0 x1 x2 x3 x4 x5 x6 x7 x8 [] (fun k => k = w.heap.size + 1) ((w.alloc (.cells #[x0, x1, x2, x3, x4, x5, x6, x7, x8] 26)).alloc (.cells #[.slice none 0 0] 88)) := by
  have h1 := Box9.new w 26 x0 x1 x2 x3 x4 x5 x6 x7 x8
  have b1 : Below w.heap.size w (w.alloc (.cells #[x0, x1, x2, x3, x4, x5, x6, x7, x8] 26)) := (Below.refl _ w).alloc (Nat.le_refl _) _
  have e1 : (w.alloc (.cells #[x0, x1, x2, x3, x4, x5, x6, x7, x8] 26)).heap.size = w.heap.size + 1 := by simp
  have h2 := wr_zero (w.alloc (.cells #[x0, x1, x2, x3, x4, x5, x6, x7, x8] 26)) (base := w.heap.size) b1.size
  rw [e1] at h2
  exact ⟨h2, by show ¬ _ = _; omega, h1.keep ((Below.refl _ _).alloc (Nat.le_refl _) _), b1.alloc b1.size _⟩
set_option maxRecDepth 100000 in
set_option maxHeartbeats 2000000 in
theorem pval1 (h o : Int) (vp vc : Value) (hp md pr ag ai : Nat) (w : World) : Calls Tryd.prog 66 #[.agg #[.int .i64 h, .int .i64 o, vp, .int .u32 hp, .int .u32 md, .int .u32 pr, .int .u32 ag, .int .u32 ai, vc], .int .i64 1] w (Gives8 ([lo8 o]) w) := by
  have ST := Go.Lib.hid (val_start w (.int .i64 h) (.int .i64 o) (vp) (.int .u32 hp) (.int .u32 md) (.int .u32 pr) (.int .u32 ag) (.int .u32 ai) (vc))
  obtain ⟨c0, c1, c2, c3, c4, c5, c6, c7, c8⟩ := ST.out.b9.cells
  go_enter Tryd.func66, Tryd.ntmps66
  go_wp2_with (first
    | (go_at_call 82; first | (refine (w8_put _ _ [] _ o _ ST.out.wr (by simp) ST.out.low.size).mono ?_; intro e x hA; obtain ⟨F2, rfl, hS⟩ := ST.out.add hA; replace ST := Go.Lib.hid hS; clear c0 c1 c2 c3 c4 c5 c6 c7 c8; obtain ⟨c0, c1, c2, c3, c4, c5, c6, c7, c8⟩ := ST.out.b9.cells; clear hA hS) | (trace "FELL"; trace_state; fail_if_success skip))
    | (go_at_call 68; refine (wbytes_any _ _ _ _ _ ST.out.wr (by simp)).mono ?_; rintro e y ⟨A1, c1, rfl, ho, hy⟩; have HO := Go.Lib.hid (own_base ho ST.out.low.size); have HY := Go.Lib.hid (ST.out.low.trans (hy.mono ST.out.low.size)); clear ho hy))
  go_ret
  exact ⟨A1, c1, rfl, HO.out, HY.out⟩
set_option maxRecDepth 100000 in
set_option maxHeartbeats 2000000 in
theorem pval3 (h o : Int) (vp vc : Value) (hp md pr ag ai : Nat) (w : World) : Calls Tryd.prog 66 #[.agg #[.int .i64 h, .int .i64 o, vp, .int .u32 hp, .int .u32 md, .int .u32 pr, .int .u32 ag, .int .u32 ai, vc], .int .i64 3] w (Gives8 (big hp 4) w) := by
  have ST := Go.Lib.hid (val_start w (.int .i64 h) (.int .i64 o) (vp) (.int .u32 hp) (.int .u32 md) (.int .u32 pr) (.int .u32 ag) (.int .u32 ai) (vc))
  obtain ⟨c0, c1, c2, c3, c4, c5, c6, c7, c8⟩ := ST.out.b9.cells
  have HE := Go.Lib.hid (put4 hp)
  rw [← HE.out]
  go_enter Tryd.func66, Tryd.ntmps66
  go_wp2_with (first
    | (go_at_call 84; first | (refine (w32_put _ _ [] _ hp _ ST.out.wr (by simp) ST.out.low.size).mono ?_; intro e x hA; obtain ⟨F2, rfl, hS⟩ := ST.out.add hA; replace ST := Go.Lib.hid hS; clear c0 c1 c2 c3 c4 c5 c6 c7 c8; obtain ⟨c0, c1, c2, c3, c4, c5, c6, c7, c8⟩ := ST.out.b9.cells; clear hA hS) | (trace "FELL"; trace_state; fail_if_success skip))
    | (go_at_call 68; refine (wbytes_any _ _ _ _ _ ST.out.wr (by simp)).mono ?_; rintro e y ⟨A1, c1, rfl, ho, hy⟩; have HO := Go.Lib.hid (own_base ho ST.out.low.size); have HY := Go.Lib.hid (ST.out.low.trans (hy.mono ST.out.low.size)); clear ho hy))
  go_ret
  exact ⟨A1, c1, rfl, HO.out, HY.out⟩
set_option maxRecDepth 100000 in
set_option maxHeartbeats 2000000 in
theorem pval4 (h o : Int) (vp vc : Value) (hp md pr ag ai : Nat) (w : World) : Calls Tryd.prog 66 #[.agg #[.int .i64 h, .int .i64 o, vp, .int .u32 hp, .int .u32 md, .int .u32 pr, .int .u32 ag, .int .u32 ai, vc], .int .i64 4] w (Gives8 (big md 4) w) := by
  have ST := Go.Lib.hid (val_start w (.int .i64 h) (.int .i64 o) (vp) (.int .u32 hp) (.int .u32 md) (.int .u32 pr) (.int .u32 ag) (.int .u32 ai) (vc))
  obtain ⟨c0, c1, c2, c3, c4, c5, c6, c7, c8⟩ := ST.out.b9.cells
  have HE := Go.Lib.hid (put4 md)
  rw [← HE.out]
  go_enter Tryd.func66, Tryd.ntmps66
  go_wp2_with (first
    | (go_at_call 84; first | (refine (w32_put _ _ [] _ md _ ST.out.wr (by simp) ST.out.low.size).mono ?_; intro e x hA; obtain ⟨F2, rfl, hS⟩ := ST.out.add hA; replace ST := Go.Lib.hid hS; clear c0 c1 c2 c3 c4 c5 c6 c7 c8; obtain ⟨c0, c1, c2, c3, c4, c5, c6, c7, c8⟩ := ST.out.b9.cells; clear hA hS) | (trace "FELL"; trace_state; fail_if_success skip))
    | (go_at_call 68; refine (wbytes_any _ _ _ _ _ ST.out.wr (by simp)).mono ?_; rintro e y ⟨A1, c1, rfl, ho, hy⟩; have HO := Go.Lib.hid (own_base ho ST.out.low.size); have HY := Go.Lib.hid (ST.out.low.trans (hy.mono ST.out.low.size)); clear ho hy))
  go_ret
  exact ⟨A1, c1, rfl, HO.out, HY.out⟩
set_option maxRecDepth 100000 in
set_option maxHeartbeats 2000000 in
theorem pval5 (h o : Int) (vp vc : Value) (hp md pr ag ai : Nat) (w : World) : Calls Tryd.prog 66 #[.agg #[.int .i64 h, .int .i64 o, vp, .int .u32 hp, .int .u32 md, .int .u32 pr, .int .u32 ag, .int .u32 ai, vc], .int .i64 5] w (Gives8 (big pr 4) w) := by
  have ST := Go.Lib.hid (val_start w (.int .i64 h) (.int .i64 o) (vp) (.int .u32 hp) (.int .u32 md) (.int .u32 pr) (.int .u32 ag) (.int .u32 ai) (vc))
  obtain ⟨c0, c1, c2, c3, c4, c5, c6, c7, c8⟩ := ST.out.b9.cells
  have HE := Go.Lib.hid (put4 pr)
  rw [← HE.out]
  go_enter Tryd.func66, Tryd.ntmps66
  go_wp2_with (first
    | (go_at_call 84; first | (refine (w32_put _ _ [] _ pr _ ST.out.wr (by simp) ST.out.low.size).mono ?_; intro e x hA; obtain ⟨F2, rfl, hS⟩ := ST.out.add hA; replace ST := Go.Lib.hid hS; clear c0 c1 c2 c3 c4 c5 c6 c7 c8; obtain ⟨c0, c1, c2, c3, c4, c5, c6, c7, c8⟩ := ST.out.b9.cells; clear hA hS) | (trace "FELL"; trace_state; fail_if_success skip))
    | (go_at_call 68; refine (wbytes_any _ _ _ _ _ ST.out.wr (by simp)).mono ?_; rintro e y ⟨A1, c1, rfl, ho, hy⟩; have HO := Go.Lib.hid (own_base ho ST.out.low.size); have HY := Go.Lib.hid (ST.out.low.trans (hy.mono ST.out.low.size)); clear ho hy))
  go_ret
  exact ⟨A1, c1, rfl, HO.out, HY.out⟩
set_option maxRecDepth 100000 in
set_option maxHeartbeats 2000000 in
theorem pval6 (h o : Int) (vp vc : Value) (hp md pr ag ai : Nat) (w : World) : Calls Tryd.prog 66 #[.agg #[.int .i64 h, .int .i64 o, vp, .int .u32 hp, .int .u32 md, .int .u32 pr, .int .u32 ag, .int .u32 ai, vc], .int .i64 6] w (Gives8 ([]) w) := by
  have ST := Go.Lib.hid (val_start w (.int .i64 h) (.int .i64 o) (vp) (.int .u32 hp) (.int .u32 md) (.int .u32 pr) (.int .u32 ag) (.int .u32 ai) (vc))
  obtain ⟨c0, c1, c2, c3, c4, c5, c6, c7, c8⟩ := ST.out.b9.cells
  go_enter Tryd.func66, Tryd.ntmps66
  go_wp2_with (first
    | (go_at_call 68; refine (wbytes_any _ _ _ _ _ ST.out.wr (by simp)).mono ?_; rintro e y ⟨A1, c1, rfl, ho, hy⟩; have HO := Go.Lib.hid (own_base ho ST.out.low.size); have HY := Go.Lib.hid (ST.out.low.trans (hy.mono ST.out.low.size)); clear ho hy))
  go_ret
  exact ⟨A1, c1, rfl, HO.out, HY.out⟩
set_option maxRecDepth 100000 in
set_option maxHeartbeats 2000000 in
theorem pval7 (h o : Int) (vp vc : Value) (hp md pr ag ai : Nat) (w : World) : Calls Tryd.prog 66 #[.agg #[.int .i64 h, .int .i64 o, vp, .int .u32 hp, .int .u32 md, .int .u32 pr, .int .u32 ag, .int .u32 ai, vc], .int .i64 7] w (Gives8 (big ag 4 ++ big ai 4) w) := by
  have ST := Go.Lib.hid (val_start w (.int .i64 h) (.int .i64 o) (vp) (.int .u32 hp) (.int .u32 md) (.int .u32 pr) (.int .u32 ag) (.int .u32 ai) (vc))
  obtain ⟨c0, c1, c2, c3, c4, c5, c6, c7, c8⟩ := ST.out.b9.cells
  have HE := Go.Lib.hid (put4 ag)
  have HF := Go.Lib.hid (put4 ai)
  rw [← HE.out, ← HF.out]
  go_enter Tryd.func66, Tryd.ntmps66
  go_wp2
  have D0 := Go.Lib.hid (ST.out.below (Below.refl _ _).drew)
  clear c0 c1 c2 c3 c4 c5 c6 c7 c8
  obtain ⟨-, -, -, -, -, -, c6, c7, -⟩ := D0.out.b9.cells
  have CA := Go.Lib.hid (fun W (F : Nat → Prop) (h : ValSt w (.pointer (some ⟨w.heap.size + 1, 0, none⟩)) w.heap.size (.int .i64 h) (.int .i64 o) (vp) (.int .u32 hp) (.int .u32 md) (.int .u32 pr) (.int .u32 ag) (.int .u32 ai) (vc) [] F W) => w32_put _ _ [] F ag W h.wr (by simp) h.low.size)
  have CB := Go.Lib.hid (fun W (F : Nat → Prop) (l : List Nat) (hl : l.length ≤ 100) (h : ValSt w (.pointer (some ⟨w.heap.size + 1, 0, none⟩)) w.heap.size (.int .i64 h) (.int .i64 o) (vp) (.int .u32 hp) (.int .u32 md) (.int .u32 pr) (.int .u32 ag) (.int .u32 ai) (vc) l F W) => w32_put _ _ l F ai W h.wr (by omega) h.low.size)
  go_region_held3 (fun w' => w'.cell? ⟨w.heap.size, 6, none⟩ = some (.int .u32 ag) ∧ w'.cell? ⟨w.heap.size, 7, none⟩ = some (.int .u32 ai)) (exact ⟨by assumption, by assumption⟩) (first
    | (have hq := D0.out; go_at_call 84; refine (CA.out _ _ hq).mono ?_; intro e x hA; obtain ⟨F2, rfl, hS⟩ := hq.add hA; have ST1 := Go.Lib.hid hS; clear hA hS c6 c7 hq D0; obtain ⟨-, -, -, -, -, -, c6, c7, -⟩ := ST1.out.b9.cells)
    | (have hq := ST1.out; go_at_call 84; refine (CB.out _ _ _ (by simp) hq).mono ?_; intro e x hA; obtain ⟨F3, rfl, hS⟩ := hq.add hA; have ST2 := Go.Lib.hid hS; clear hA hS c6 c7 hq ST1; obtain ⟨-, -, -, -, -, -, c6, c7, -⟩ := ST2.out.b9.cells))
  replace ST := ST2
  go_wp2_with (first
    | (go_at_call 68; refine (wbytes_any _ _ _ _ _ ST.out.wr (by simp)).mono ?_; rintro e y ⟨A1, c1, rfl, ho, hy⟩; have HO := Go.Lib.hid (own_base ho ST.out.low.size); have HY := Go.Lib.hid (ST.out.low.trans (hy.mono ST.out.low.size)); clear ho hy))
  go_ret
  exact ⟨A1, c1, rfl, HO.out, HY.out⟩
set_option maxRecDepth 100000 in
set_option maxHeartbeats 2000000 in
theorem pval8 (h o : Int) (vp vc : Value) (hp md pr ag ai : Nat) (w : World) (cm : List Nat) (hC : U32s w vc cm) (hl : cm.length ≤ 100000) : Calls Tryd.prog 66 #[.agg #[.int .i64 h, .int .i64 o, vp, .int .u32 hp, .int .u32 md, .int .u32 pr, .int .u32 ag, .int .u32 ai, vc], .int .i64 8] w (Gives8 (fours cm) w) := by
  have ST := Go.Lib.hid (val_start w (.int .i64 h) (.int .i64 o) (vp) (.int .u32 hp) (.int .u32 md) (.int .u32 pr) (.int .u32 ag) (.int .u32 ai) (vc))
  obtain ⟨c0, c1, c2, c3, c4, c5, c6, c7, c8⟩ := ST.out.b9.cells
  have HC := Go.Lib.hid hC
  have HL := Go.Lib.hid hl
  clear hC hl
  go_enter Tryd.func66, Tryd.ntmps66
  go_wp2_with (first
    | (go_at_call 83; first | (refine (putAll_any _ _ _ [] cm _ _ ST.out.wr (fun W' ho => HC.out.keep (ST.out.low.trans (ho.below (fun k hk => (ST.out.wr.lt k hk).1) ST.out.low.size))) (by have := HL.out; simp; omega) ST.out.low.size).mono ?_; rintro e x ⟨rfl, F2, hS⟩; replace ST := Go.Lib.hid (ST.out.wst hS); clear hS c0 c1 c2 c3 c4 c5 c6 c7 c8) | (trace "FELL"; trace_state; fail_if_success skip))
    | (go_at_call 68; first | (refine (wbytes_any _ _ _ _ _ ST.out.wr (by have := HL.out; rw [List.nil_append, fours_len]; omega)).mono ?_; rintro e y ⟨A1, c1, rfl, ho, hy⟩; have HO := Go.Lib.hid (own_base ho ST.out.low.size); have HY := Go.Lib.hid (ST.out.low.trans (hy.mono ST.out.low.size)); clear ho hy) | (trace "FELL"; trace_state; fail_if_success skip)))
  go_ret
  exact ⟨A1, c1, rfl, HO.out, HY.out⟩
structure SegSt (w0 : World) (P : Value) (B : Nat) (x0 x1 x2 x3 x4 x5 x6 x7 x8 : Value) (C : Nat) (k x : Value) (l : List Nat) (F : Nat → Prop) (W : World) : Prop where
  v : ValSt w0 P B x0 x1 x2 x3 x4 x5 x6 x7 x8 l F W
  n2 : ¬ F C
  blk : W.heap[C]? = some (.cells #[k, x] 78)
section
variable {w0 W W2 : World} {P v : Value} {B C : Nat} {x0 x1 x2 x3 x4 x5 x6 x7 x8 k x : Value} {l l2 : List Nat} {F F2 : Nat → Prop} {e : Ending}
theorem SegSt.lt (h : SegSt w0 P B x0 x1 x2 x3 x4 x5 x6 x7 x8 C k x l F W) : C < W.heap.size := (Array.getElem?_eq_some_iff.1 h.blk).1
theorem SegSt.below (h : SegSt w0 P B x0 x1 x2 x3 x4 x5 x6 x7 x8 C k x l F W) (hb : Below W.heap.size W W2) : SegSt w0 P B x0 x1 x2 x3 x4 x5 x6 x7 x8 C k x l F W2 :=
  ⟨h.v.below hb, h.n2, (hb.block C h.lt).trans h.blk⟩
theorem SegSt.wst (h : SegSt w0 P B x0 x1 x2 x3 x4 x5 x6 x7 x8 C k x l F W) (q : Wst w0.heap.size P F W l2 F2 W2) : SegSt w0 P B x0 x1 x2 x3 x4 x5 x6 x7 x8 C k x l2 F2 W2 := by
  refine ⟨h.v.wst q, fun hf => ?_, (q.on.block C h.lt h.n2).trans h.blk⟩
  rcases q.gr C hf with r | r
  · exact h.n2 r
  · have := h.lt; omega
theorem SegSt.add (h : SegSt w0 P B x0 x1 x2 x3 x4 x5 x6 x7 x8 C k x l F W) (q : AddF w0.heap.size P v l2 F W e W2) : ∃ F2, e = .returned v ∧ SegSt w0 P B x0 x1 x2 x3 x4 x5 x6 x7 x8 C k x l2 F2 W2 := by
  obtain ⟨F2, h1, h2⟩ := (Wst.new h.v.wr).add q
  exact ⟨F2, h1, h.wst h2⟩
theorem SegSt.cells (h : SegSt w0 P B x0 x1 x2 x3 x4 x5 x6 x7 x8 C k x l F W) : W.cell? ⟨C, 0, none⟩ = some k ∧ W.cell? ⟨C, 1, none⟩ = some x := cell0 h.blk
theorem SegSt.start (h : ValSt w0 P B x0 x1 x2 x3 x4 x5 x6 x7 x8 l F W) : SegSt w0 P B x0 x1 x2 x3 x4 x5 x6 x7 x8 W.heap.size k x l F (W.alloc (.cells #[k, x] 78)) :=
  ⟨h.below ((Below.refl _ _).alloc (Nat.le_refl _) _), fun hf => by have := (h.wr.lt _ hf).2; omega, heap_alloc_new _ _⟩
end
theorem pathB_take {p : List Piece} {j : Nat} {s : Piece} (h : p[j]? = some s) : pathB (p.take (j + 1)) = pathB (p.take j) ++ segB s := by
  rw [List.take_add_one, h, Option.toList_some, pathB_append]
  simp [pathB]
set_option maxRecDepth 100000 in
set_option maxHeartbeats 2000000 in
theorem pval2 (h o : Int) (vp vc : Value) (hp md pr ag ai : Nat) (w : World) (p : List Piece) (hP : Segs w vp p) (hp1 : p.length ≤ 10000) (hp2 : lens p ≤ 20000) : Calls Tryd.prog 66 #[.agg #[.int .i64 h, .int .i64 o, vp, .int .u32 hp, .int .u32 md, .int .u32 pr, .int .u32 ag, .int .u32 ai, vc], .int .i64 2] w (Gives8 (pathB p) w) := by
  have ST := Go.Lib.hid (val_start w (.int .i64 h) (.int .i64 o) (vp) (.int .u32 hp) (.int .u32 md) (.int .u32 pr) (.int .u32 ag) (.int .u32 ai) (vc))
  obtain ⟨c0, c1, c2, c3, c4, c5, c6, c7, c8⟩ := ST.out.b9.cells
  have HP := Go.Lib.hid hP
  have HL := Go.Lib.hid (And.intro hp1 hp2)
  obtain ⟨Ap, cp, rfl, -, -⟩ := hP.form
  clear hP hp1 hp2
  go_enter Tryd.func66, Tryd.ntmps66
  go_wp2
  clear c0 c1 c2 c3 c4 c5 c6 c7 c8
  go_loopw [19] (fun v19 wx => ∃ (j : Nat) (F : Nat → Prop), j ≤ p.length ∧ v19 = .int .i64 j ∧ Hid (ValSt w (.pointer (some ⟨w.heap.size + 1, 0, none⟩)) w.heap.size (.int .i64 h) (.int .i64 o) (.slice Ap p.length cp) (.int .u32 hp) (.int .u32 md) (.int .u32 pr) (.int .u32 ag) (.int .u32 ai) (vc) (pathB (p.take j)) F wx)) (fun v19 _ => p.length - (intOf v19).toNat)
  case atStart => exact ⟨0, _, Nat.zero_le _, rfl, ST⟩
  case round =>
    obtain ⟨j, F, hj, rfl, SJ⟩ := hrel
    have hpl := HL.out.1
    by_cases hlt : j < p.length
    · obtain ⟨sg, hs⟩ : ∃ s, p[j]? = some s := ⟨_, List.getElem?_eq_getElem hlt⟩
      obtain ⟨b, off, x, e', hbl, k1, k2, hx⟩ := HP.out.at_ hs
      subst e'
      replace k1 := keeps SJ.out.low k1
      replace k2 := keeps SJ.out.low k2
      obtain ⟨Ax, cx, rfl, -, -, -, -⟩ := hx.open_
      have HT := Go.Lib.hid (pathB_take hs)
      have HX := Go.Lib.hid hx
      have HLN := Go.Lib.hid (show (pathB (p.take j)).length ≤ 100000 by
        have h1 := pathB_len (p.take j)
        have h2 := lens_take_le p j
        have h3 := HL.out
        rw [h1, List.length_take]
        omega)
      have HSN := Go.Lib.hid (show sg.2.length ≤ 20000 by
        have h1 := lens_take hs
        have h2 := lens_take_le p (j + 1)
        have h3 := HL.out
        omega)
      obtain ⟨m, hm⟩ : ∃ m, m = sg.2.length := ⟨_, rfl⟩
      obtain ⟨ks, hks⟩ : ∃ ks, ks = sg.1 := ⟨_, rfl⟩
      have HSB := Go.Lib.hid (show segB sg = [lo8 ks] ++ ([lo8 (m : Int)] ++ fours sg.2) by rw [hm, hks]; rfl)
      rw [← hm] at k2 HX
      rw [← hks] at k1
      have z0 : (0 : Int) ≤ (j : Int) := by omega
      have z1 : (j : Int) < (p.length : Int) := by omega
      have G0 := Go.Lib.hid ((SegSt.start SJ.out (k := .int .i64 ks) (x := .slice Ax m cx)).below (Below.refl _ _).drew)
      obtain ⟨q0, q1⟩ := G0.out.cells
      clear hs hx hm hks
      go_wp2
      have CA := Go.Lib.hid (fun W (F : Nat → Prop) (l : List Nat) (n : Int) (hl : l.length ≤ 700000) (h : Wr W w.heap.size (.pointer (some ⟨w.heap.size + 1, 0, none⟩)) l F) (hb : w.heap.size ≤ W.heap.size) => w8_put _ _ l F n W h (by omega) hb)
      go_region_held3 (fun w' => w'.cell? ⟨wr.heap.size, 0, none⟩ = some (.int .i64 ks) ∧ w'.cell? ⟨wr.heap.size, 1, none⟩ = some (.slice Ax m cx)) (exact ⟨by assumption, by assumption⟩) (first
        | (have hq := G0.out; go_at_call 82; refine (CA.out _ _ _ _ (by have := HLN.out; omega) hq.v.wr hq.v.low.size).mono ?_; intro e x hA; obtain ⟨F2, rfl, hS⟩ := hq.add hA; have G1 := Go.Lib.hid hS; clear hA hS q0 q1 hq G0; obtain ⟨q0, q1⟩ := G1.out.cells)
        | (have hq := G1.out; go_at_call 82; refine (CA.out _ _ _ _ (by have := HLN.out; simp; omega) hq.v.wr hq.v.low.size).mono ?_; intro e x hA; obtain ⟨F3, rfl, hS⟩ := hq.add hA; have G2 := Go.Lib.hid hS; clear hA hS q0 q1 hq G1; obtain ⟨q0, q1⟩ := G2.out.cells))
      go_wp2_with (go_at_call 83; first | (refine (putAll_any _ _ _ _ sg.2 _ _ G2.out.v.wr (fun W' ho => HX.out.keep (G2.out.v.low.trans (ho.below (fun k hk => (G2.out.v.wr.lt k hk).1) G2.out.v.low.size))) (by have h1 := HLN.out; have h2 := HSN.out; simp; omega) G2.out.v.low.size).mono ?_; rintro e x ⟨rfl, F4, hS⟩; have G3 := Go.Lib.hid (G2.out.v.wst hS); clear hS q0 q1 G2) | (trace "FELL"; trace_state; fail_if_success skip))
      go_roundw
      case rel =>
        refine ⟨j + 1, F4, hlt, by go_num, Go.Lib.hid ?_⟩
        rw [HT.out, HSB.out, ← List.append_assoc, ← List.append_assoc]
        exact G3.out
      case measure => simp [intOf]; omega
    · obtain rfl : j = p.length := by omega
      have z1 : decide ((p.length : Int) < (p.length : Int)) = false := by simp
      rw [List.take_length] at SJ
      go_wp2_with (go_at_call 68; first | (refine (wbytes_any _ _ _ _ _ SJ.out.wr (by have := HL.out; rw [pathB_len]; omega)).mono ?_; rintro e y ⟨A1, c1, rfl, ho, hy⟩; have HO := Go.Lib.hid (own_base ho SJ.out.low.size); have HY := Go.Lib.hid (SJ.out.low.trans (hy.mono SJ.out.low.size)); clear ho hy) | (trace "FELL"; trace_state; fail_if_success skip))
      go_ret
      exact ⟨A1, c1, rfl, HO.out, HY.out⟩
end Go.Proofs.YtanmepgplpijkaaDoor.Att
namespace Go.Proofs.YtanmepgplpijkaaDoor.Att
open Go.RowKit Mem Segm Oct
theorem value_any (v : Value) (a : At) (k : Nat) (w : World) (hv : Attrs w v a) (h1 : 1 ≤ k) (h8 : k ≤ 8) (hp1 : a.path.length ≤ 10000) (hp2 : lens a.path ≤ 20000) (hc : a.comms.length ≤ 100000) :
    Calls Tryd.prog 66 #[v, .int .i64 k] w (Gives8 (valB a k) w) := by
  obtain ⟨_, vp, vc, rfl, hP, hC⟩ := hv
  have hk : k = 1 ∨ k = 2 ∨ k = 3 ∨ k = 4 ∨ k = 5 ∨ k = 6 ∨ k = 7 ∨ k = 8 := by omega
  rcases hk with rfl | rfl | rfl | rfl | rfl | rfl | rfl | rfl
  · exact pval1 a.has a.origin vp vc a.hop a.med a.pref a.aas a.aid w
  · exact pval2 a.has a.origin vp vc a.hop a.med a.pref a.aas a.aid w a.path hP hp1 hp2
  · exact pval3 a.has a.origin vp vc a.hop a.med a.pref a.aas a.aid w
  · exact pval4 a.has a.origin vp vc a.hop a.med a.pref a.aas a.aid w
  · exact pval5 a.has a.origin vp vc a.hop a.med a.pref a.aas a.aid w
  · exact pval6 a.has a.origin vp vc a.hop a.med a.pref a.aas a.aid w
  · exact pval7 a.has a.origin vp vc a.hop a.med a.pref a.aas a.aid w
  · exact pval8 a.has a.origin vp vc a.hop a.med a.pref a.aas a.aid w a.comms hC hc
structure ItSt (base : Nat) (P : Value) (F0 : Nat → Prop) (s : World) (C : Nat) (x0 x1 x2 : Value) (l : List Nat) (F : Nat → Prop) (W : World) : Prop where
  ws : Wst base P F0 s l F W
  nf : ¬ F C
  bx : Box3 W C 68 x0 x1 x2
section
variable {base C : Nat} {P v x0 x1 x2 : Value} {F0 F F2 : Nat → Prop} {s W W2 : World} {l l2 : List Nat} {e : Ending}
theorem ItSt.below (h : ItSt base P F0 s C x0 x1 x2 l F W) (hb : Below W.heap.size W W2) : ItSt base P F0 s C x0 x1 x2 l F W2 := ⟨h.ws.below hb, h.nf, h.bx.keep hb⟩
theorem ItSt.wst (h : ItSt base P F0 s C x0 x1 x2 l F W) (k : Wst base P F W l2 F2 W2) : ItSt base P F0 s C x0 x1 x2 l2 F2 W2 := by
  refine ⟨h.ws.then_ k, fun hf => ?_, ⟨(k.on.block C h.bx.lt h.nf).trans h.bx.blk⟩⟩
  rcases k.gr C hf with q | q
  · exact h.nf q
  · have := h.bx.lt; omega
theorem ItSt.add (h : ItSt base P F0 s C x0 x1 x2 l F W) (k : AddF base P v l2 F W e W2) : ∃ F2, e = .returned v ∧ ItSt base P F0 s C x0 x1 x2 l2 F2 W2 := by
  obtain ⟨F2, h1, h2⟩ := (Wst.new h.ws.wr).add k
  exact ⟨F2, h1, h.wst h2⟩
theorem ItSt.start (h : Wr s base P l F) (x0 x1 x2 : Value) : ItSt base P F s s.heap.size x0 x1 x2 l F (s.alloc (.cells #[x0, x1, x2] 68)) :=
  ⟨(Wst.new h).below ((Below.refl _ _).alloc (Nat.le_refl _) _), fun hf => by have := (h.lt _ hf).2; omega, Box3.new _ _ _ _ _⟩
end
theorem lo8_byte {n : Nat} (h : n < 256) : lo8 (n : Int) = n := by unfold lo8; omega
theorem item_short {f k : Nat} {m : List Nat} (h : ¬ f / 16 % 2 = 1) (hf : f < 256) (hk : k < 256) (hm : m.length ≤ 255) : itemB f k m = [lo8 (f : Int)] ++ ([lo8 (k : Int)] ++ sizedS m) := by
  unfold itemB sizedS
  rw [if_neg h, if_pos hm, lo8_byte hf, lo8_byte hk, lo8_byte (by omega)]
  rfl
theorem item_long {f k : Nat} {m : List Nat} (h : f / 16 % 2 = 1) (hf : f < 256) (hk : k < 256) (hm : m.length ≤ 65535) : itemB f k m = [lo8 (f : Int)] ++ ([lo8 (k : Int)] ++ longS m) := by
  unfold itemB longS
  rw [if_pos h, if_pos hm, lo8_byte hf, lo8_byte hk, big2, show lo8 ((m.length : Int) / 256) = m.length / 256 % 256 by unfold lo8; omega, show lo8 (m.length : Int) = m.length % 256 by unfold lo8; omega]
  rfl
set_option maxRecDepth 100000 in
set_option maxHeartbeats 2000000 in
theorem put_short (P : Value) (A : Option Addr) (c base f k : Nat) (l m : List Nat) (F0 : Nat → Prop) (s : World) (hW : Wr s base P l F0) (hx : ∀ W, Only F0 s W → U8s W (.slice A m.length c) m) (hlen : l.length + m.length ≤ 700000) (hbase : base ≤ s.heap.size) (hf : f < 256) (hk : k < 256) (hm : m.length ≤ 255) (hc : ¬ f / 16 % 2 = 1) :
    Calls Tryd.prog 67 #[.agg #[.int .i64 f, .int .i64 k, .slice A m.length c], P] s (fun e w' => e = .returned (.tuple #[]) ∧ ∃ F', Wst base P F0 s (l ++ itemB f k m) F' w') := by
  rw [item_short hc hf hk hm]
  have n16 : bits .and .i64 (f : Int) 16 = 0 := by rw [byte16 f hf, if_neg hc]
  have G0 := Go.Lib.hid ((ItSt.start hW (.int .i64 f) (.int .i64 k) (.slice A m.length c)).below (Below.refl _ _).drew)
  have hW0 := hW
  obtain ⟨bP, sP, rfl, -⟩ := hW0
  obtain ⟨q0, q1, q2⟩ := G0.out.bx.cells
  have HB := Go.Lib.hid (show s.heap.size + 1 ≤ _ from G0.out.bx.lt)
  have HBS := Go.Lib.hid hbase
  have HX := Go.Lib.hid hx
  have HN := Go.Lib.hid hlen
  have CA := Go.Lib.hid (fun W (F : Nat → Prop) (l : List Nat) (n : Int) (hl : l.length ≤ 800000) (h : Wr W base (.pointer (some ⟨bP, 0, none⟩)) l F) (hb : base ≤ W.heap.size) => w8_put _ _ l F n W h (by omega) hb)
  have HM := Go.Lib.hid hm
  clear hx hW hlen hbase hf hk hm hc
  go_enter Tryd.func67, Tryd.ntmps67
  go_wp2
  go_region_held3 (fun w' => w'.cell? ⟨s.heap.size, 0, none⟩ = some (.int .i64 f) ∧ w'.cell? ⟨s.heap.size, 1, none⟩ = some (.int .i64 k)) (exact ⟨by assumption, by assumption⟩) (first
    | (have hq := G0.out; go_at_call 82; refine (CA.out _ _ _ _ (by have := HN.out; omega) hq.ws.wr (Nat.le_trans HBS.out hq.ws.size)).mono ?_; intro e x hA; obtain ⟨F2, rfl, hS⟩ := hq.add hA; have G1 := Go.Lib.hid hS; clear hA hS q0 q1 q2 hq G0; obtain ⟨q0, q1, q2⟩ := G1.out.bx.cells)
    | (have hq := G1.out; go_at_call 82; refine (CA.out _ _ _ _ (by have := HN.out; simp; omega) hq.ws.wr (Nat.le_trans HBS.out hq.ws.size)).mono ?_; intro e x hA; obtain ⟨F3, rfl, hS⟩ := hq.add hA; have G2 := Go.Lib.hid hS; clear hA hS q0 q1 q2 hq G1; obtain ⟨q0, q1, q2⟩ := G2.out.bx.cells))
  go_wp2_with (go_at_call 86; first | (refine (sizedO_any _ A c base _ m F3 _ G2.out.ws.wr (fun W' ho => HX.out W' (G2.out.ws.only ho)) (by have := HN.out; simp; omega) (Nat.le_trans HBS.out G2.out.ws.size)).mono ?_; intro e x hA; obtain ⟨F4, rfl, hS⟩ := G2.out.add hA; have G3 := Go.Lib.hid hS; clear hA hS q0 q1 q2) | (trace "FELL"; trace_state; fail_if_success skip))
  go_end0
  refine ⟨rfl, F4, ?_⟩
  have h := G3.out.ws
  rw [List.append_assoc, List.append_assoc] at h
  exact h
set_option maxRecDepth 100000 in
set_option maxHeartbeats 2000000 in
theorem put_long (P : Value) (A : Option Addr) (c base f k : Nat) (l m : List Nat) (F0 : Nat → Prop) (s : World) (hW : Wr s base P l F0) (hx : ∀ W, Only F0 s W → U8s W (.slice A m.length c) m) (hlen : l.length + m.length ≤ 700000) (hbase : base ≤ s.heap.size) (hf : f < 256) (hk : k < 256) (hm : m.length ≤ 65535) (hc : f / 16 % 2 = 1) :
    Calls Tryd.prog 67 #[.agg #[.int .i64 f, .int .i64 k, .slice A m.length c], P] s (fun e w' => e = .returned (.tuple #[]) ∧ ∃ F', Wst base P F0 s (l ++ itemB f k m) F' w') := by
  rw [item_long hc hf hk hm]
  have n16 : bits .and .i64 (f : Int) 16 = 16 := by rw [byte16 f hf, if_pos hc]
  have G0 := Go.Lib.hid ((ItSt.start hW (.int .i64 f) (.int .i64 k) (.slice A m.length c)).below (Below.refl _ _).drew)
  have hW0 := hW
  obtain ⟨bP, sP, rfl, -⟩ := hW0
  obtain ⟨q0, q1, q2⟩ := G0.out.bx.cells
  have HB := Go.Lib.hid (show s.heap.size + 1 ≤ _ from G0.out.bx.lt)
  have HBS := Go.Lib.hid hbase
  have HX := Go.Lib.hid hx
  have HN := Go.Lib.hid hlen
  have CA := Go.Lib.hid (fun W (F : Nat → Prop) (l : List Nat) (n : Int) (hl : l.length ≤ 800000) (h : Wr W base (.pointer (some ⟨bP, 0, none⟩)) l F) (hb : base ≤ W.heap.size) => w8_put _ _ l F n W h (by omega) hb)
  have HM := Go.Lib.hid hm
  clear hx hW hlen hbase hf hk hm hc
  go_enter Tryd.func67, Tryd.ntmps67
  go_wp2
  go_region_held3 (fun w' => w'.cell? ⟨s.heap.size, 0, none⟩ = some (.int .i64 f) ∧ w'.cell? ⟨s.heap.size, 1, none⟩ = some (.int .i64 k)) (exact ⟨by assumption, by assumption⟩) (first
    | (have hq := G0.out; go_at_call 82; refine (CA.out _ _ _ _ (by have := HN.out; omega) hq.ws.wr (Nat.le_trans HBS.out hq.ws.size)).mono ?_; intro e x hA; obtain ⟨F2, rfl, hS⟩ := hq.add hA; have G1 := Go.Lib.hid hS; clear hA hS q0 q1 q2 hq G0; obtain ⟨q0, q1, q2⟩ := G1.out.bx.cells)
    | (have hq := G1.out; go_at_call 82; refine (CA.out _ _ _ _ (by have := HN.out; simp; omega) hq.ws.wr (Nat.le_trans HBS.out hq.ws.size)).mono ?_; intro e x hA; obtain ⟨F3, rfl, hS⟩ := hq.add hA; have G2 := Go.Lib.hid hS; clear hA hS q0 q1 q2 hq G1; obtain ⟨q0, q1, q2⟩ := G2.out.bx.cells))
  go_wp2_with (go_at_call 85; first | (refine (longO_any _ A c base _ m F3 _ G2.out.ws.wr (fun W' ho => HX.out W' (G2.out.ws.only ho)) (by have := HN.out; simp; omega) (Nat.le_trans HBS.out G2.out.ws.size)).mono ?_; intro e x hA; obtain ⟨F4, rfl, hS⟩ := G2.out.add hA; have G3 := Go.Lib.hid hS; clear hA hS q0 q1 q2) | (trace "FELL"; trace_state; fail_if_success skip))
  go_end0
  refine ⟨rfl, F4, ?_⟩
  have h := G3.out.ws
  rw [List.append_assoc, List.append_assoc] at h
  exact h
theorem put_item (P : Value) (A : Option Addr) (c base f k : Nat) (l m : List Nat) (F0 : Nat → Prop) (s : World) (hW : Wr s base P l F0) (hx : ∀ W, Only F0 s W → U8s W (.slice A m.length c) m) (hlen : l.length + m.length ≤ 700000) (hbase : base ≤ s.heap.size) (hf : f < 256) (hk : k < 256) (hm : m.length ≤ 65535) (hc : 255 < m.length → f / 16 % 2 = 1) :
    Calls Tryd.prog 67 #[.agg #[.int .i64 f, .int .i64 k, .slice A m.length c], P] s (fun e w' => e = .returned (.tuple #[]) ∧ ∃ F', Wst base P F0 s (l ++ itemB f k m) F' w') := by
  by_cases h : f / 16 % 2 = 1
  · exact put_long P A c base f k l m F0 s hW hx hlen hbase hf hk hm h
  · exact put_short P A c base f k l m F0 s hW hx hlen hbase hf hk (by
      rcases Nat.lt_or_ge 255 m.length with q | q
      · exact absurd (hc q) h
      · exact q) h
end Go.Proofs.YtanmepgplpijkaaDoor.Att
namespace Go.Proofs.YtanmepgplpijkaaDoor.Att
open Go.RowKit Mem Segm Oct
set_option maxHeartbeats 4000000 in
theorem fits_any (k n : Nat) (w : World) (hS : Shp w) (hk : 1 ≤ k) (hk8 : k ≤ 8) (hn : n ≤ 1000000) : Calls Tryd.prog 73 #[.int .i64 k, .int .i64 n] w (Tells (.bool (longB k n)) w) := by
  have HB := Go.Lib.hid (Below.refl w.heap.size w)
  have hm : k = 2 ∨ k = 8 ∨ k = 1 ∨ k = 3 ∨ k = 4 ∨ k = 5 ∨ k = 6 ∨ k = 7 := by omega
  have c0 := (hS k hk8).2
  clear hS hk hk8
  rcases hm with rfl | rfl | rfl | rfl | rfl | rfl | rfl | rfl
  · have e : longB 2 n = true := rfl
    rw [e]
    clear c0
    go_enter Tryd.func73, Tryd.ntmps73
    go_wp2
    go_ret
    exact ⟨rfl, HB.out⟩
  · clear c0
    have wq : wrap64 ((n : Int) / 4) = (n : Int) / 4 := by unfold wrap64; omega
    by_cases h4 : n % 4 = 0
    · have y4 : (n : Int) % 4 = 0 := by omega
      by_cases h5 : n ≤ 1020
      · have z5 : (n : Int) / 4 ≤ 255 := by omega
        have e : longB 8 n = true := by simp [longB, h4, h5]
        rw [e]
        clear hn h4
        go_enter Tryd.func73, Tryd.ntmps73
        go_wp2
        go_ret
        first | exact ⟨rfl, HB.out⟩ | (rw [decide_eq_true z5]; exact ⟨rfl, HB.out⟩) | (refine ⟨?_, HB.out⟩; simp [z5]; done)
      · have z5 : decide ((n : Int) / 4 ≤ 255) = false := decide_eq_false (by omega)
        have e : longB 8 n = false := by simp [longB, h5]
        rw [e]
        clear hn h4
        go_enter Tryd.func73, Tryd.ntmps73
        go_wp2
        go_ret
        first | exact ⟨rfl, HB.out⟩ | (rw [z5]; exact ⟨rfl, HB.out⟩) | (rw [wq, z5]; exact ⟨rfl, HB.out⟩)
    · have y4 : ((n : Int) % 4 == 0) = false := by simp; omega
      have e : longB 8 n = false := by simp [longB, h4]
      rw [e]
      clear hn h4
      go_enter Tryd.func73, Tryd.ntmps73
      go_wp2
      go_ret
      exact ⟨rfl, HB.out⟩
  all_goals
    have e : ∀ m : Nat, ((n : Int) == (m : Int)) = decide (n = m) := fun m => by
      by_cases h : n = m
      · subst h; simp
      · rw [decide_eq_false h]; simp; omega
    have HE := Go.Lib.hid e
    clear e hn
    go_enter Tryd.func73, Tryd.ntmps73
    go_wp2
    go_ret
    refine ⟨?_, HB.out⟩
    show Ending.returned (Value.bool (_ == _)) = _
    rw [HE.out]
    rfl
set_option maxHeartbeats 4000000 in
theorem flagged_any (f k : Nat) (vd : Value) (w : World) (hS : Shp w) (hf : f < 256) (hk : 1 ≤ k) (hk8 : k ≤ 8) :
    Calls Tryd.prog 72 #[.agg #[.int .i64 f, .int .i64 k, vd]] w (Tells (.bool (decide (ownF f k = flagN k))) w) := by
  have hb0 : Below w.heap.size w (w.alloc (.cells #[.int .i64 f, .int .i64 k, vd] 68)) := (Below.refl _ w).alloc (Nat.le_refl _) _
  have HB := Go.Lib.hid hb0
  obtain ⟨c0, c1, c2⟩ := three_cells w (.int .i64 f) (.int .i64 k) vd 68
  have CF := Go.Lib.hid (flags_any k _ (hS.keep hb0))
  rw [flagN_is] at CF
  have HC := Go.Lib.hid (fun (W : World) (h : Below (w.alloc (.cells #[.int .i64 f, .int .i64 k, vd] 68)).heap.size (w.alloc (.cells #[.int .i64 f, .int .i64 k, vd] 68)) W) => keepsT h c0)
  have n16 := not16 f hf
  have n32 := byte32 f hf
  have o1 := or192.1
  have o2 := or192.2
  clear hS hb0
  by_cases h7 : 7 ≤ k
  · have e : flagN k = 192 := by unfold flagN; rw [if_neg (by omega), if_neg (by omega), if_pos (by omega)]
    rw [e] at CF ⊢
    by_cases h32 : f / 32 % 2 = 1
    · rw [if_pos h32] at n32
      have HE := Go.Lib.hid (show (((if f / 16 % 2 = 1 then f - 16 else f : Nat) : Int) == 224) = decide (ownF f k = 192) by
        unfold ownF
        rw [if_pos (show 7 ≤ k ∧ f / 32 % 2 = 1 from ⟨h7, h32⟩)]
        by_cases hq : (if f / 16 % 2 = 1 then f - 16 else f) = 224
        · rw [hq]; rfl
        · rw [decide_eq_false (by omega)]; simp; omega)
      generalize (if f / 16 % 2 = 1 then f - 16 else f) = g at n16 HE
      generalize decide (ownF f k = 192) = r at HE ⊢
      clear h32 h7 hf hk hk8 e
      go_enter Tryd.func72, Tryd.ntmps72
      go_wp2_with (go_at_call 13; refine (CF.out).mono ?_; rintro e w1 ⟨rfl, hb⟩; have HB1 := Go.Lib.hid (HB.out.trans (hb.mono HB.out.size)); have c0' := HC.out _ hb; clear hb)
      go_ret
      exact ⟨by rw [← HE.out]; rfl, HB1.out⟩
    · rw [if_neg h32] at n32
      have HE := Go.Lib.hid (show (((if f / 16 % 2 = 1 then f - 16 else f : Nat) : Int) == 192) = decide (ownF f k = 192) by
        unfold ownF
        rw [if_neg (show ¬ (7 ≤ k ∧ f / 32 % 2 = 1) from fun h => h32 h.2)]
        by_cases hq : (if f / 16 % 2 = 1 then f - 16 else f) = 192
        · rw [hq]; rfl
        · rw [decide_eq_false (by omega)]; simp; omega)
      generalize (if f / 16 % 2 = 1 then f - 16 else f) = g at n16 HE
      generalize decide (ownF f k = 192) = r at HE ⊢
      clear h32 h7 hf hk hk8 e
      go_enter Tryd.func72, Tryd.ntmps72
      go_wp2_with (go_at_call 13; refine (CF.out).mono ?_; rintro e w1 ⟨rfl, hb⟩; have HB1 := Go.Lib.hid (HB.out.trans (hb.mono HB.out.size)); have c0' := HC.out _ hb; clear hb)
      go_ret
      exact ⟨by rw [← HE.out]; rfl, HB1.out⟩
  · have hne : flagN k ≠ 192 := by unfold flagN; split <;> (try split) <;> (try split) <;> omega
    have HE := Go.Lib.hid (show (((if f / 16 % 2 = 1 then f - 16 else f : Nat) : Int) == (flagN k : Nat)) = decide (ownF f k = flagN k) by
      unfold ownF
      rw [if_neg (show ¬ (7 ≤ k ∧ f / 32 % 2 = 1) from fun h => h7 h.1)]
      by_cases hq : (if f / 16 % 2 = 1 then f - 16 else f) = flagN k
      · rw [hq]; simp
      · rw [decide_eq_false (by omega)]; simp; omega)
    generalize (if f / 16 % 2 = 1 then f - 16 else f) = g at n16 HE
    generalize decide (ownF f k = flagN k) = r at HE ⊢
    generalize flagN k = F at CF HE hne
    have y0 : ((F : Int) == 192) = false := by simp; omega
    clear h7 hf hk hk8 hne
    go_enter Tryd.func72, Tryd.ntmps72
    go_wp2_with (go_at_call 13; refine (CF.out).mono ?_; rintro e w1 ⟨rfl, hb⟩; have HB1 := Go.Lib.hid (HB.out.trans (hb.mono HB.out.size)); have c0' := HC.out _ hb; clear hb)
    go_ret
    exact ⟨by rw [← HE.out]; rfl, HB1.out⟩
set_option maxHeartbeats 1000000 in
theorem numbers_any (v : Value) (p : List Piece) (w : World) (hv : Segs w v p) (hl : lens p ≤ 100000) :
    Calls Tryd.prog 31 #[v] w (Tells (.int .i64 (lens p : Nat)) w) := by
  have HV := Go.Lib.hid hv
  obtain ⟨A, c, rfl, hlc, hc⟩ := hv.form
  have HL := Go.Lib.hid hl
  have HB0 := Go.Lib.hid (Below.refl w.heap.size w)
  clear hv hl
  go_enter Tryd.func31, Tryd.ntmps31
  go_wp2
  go_loopw [3, 8] (fun v3 v8 wr => ∃ i : Nat, i ≤ p.length ∧ v3 = .int .i64 (lens (p.take i) : Nat) ∧ v8 = .int .i64 i ∧ Hid (Below w.heap.size w wr)) (fun _ v8 _ => p.length - (intOf v8).toNat)
  case atStart => exact ⟨0, Nat.zero_le _, rfl, rfl, HB0⟩
  case round =>
    obtain ⟨i, hi, rfl, rfl, HBW⟩ := hrel
    by_cases hlt : i < p.length
    · obtain ⟨s, hs⟩ : ∃ s, p[i]? = some s := ⟨_, List.getElem?_eq_getElem hlt⟩
      obtain ⟨b, off, x, rfl, hbl, k1, k2, hx⟩ := (HV.out.keep HBW.out).at_ hs
      obtain ⟨Ax, cx, rfl, hlx, hcx, -, -⟩ := hx.open_
      have HE := Go.Lib.hid (lens_take hs)
      have HM := Go.Lib.hid (Nat.le_trans (lens_take_le p (i + 1)) HL.out)
      obtain ⟨m, hm⟩ : ∃ m, m = s.2.length := ⟨_, rfl⟩
      rw [← hm] at k2 HE
      have z0 : (0 : Int) ≤ (i : Int) := by omega
      have z1 : (i : Int) < (p.length : Int) := by omega
      have y1 : wrap64 ((lens (p.take i) : Nat) + (m : Int)) = ((lens (p.take (i + 1)) : Nat) : Int) := by
        have e := HE.out
        have e2 := HM.out
        rw [e] at e2 ⊢
        unfold wrap64
        omega
      have HB2 := Go.Lib.hid (HBW.out.alloc HBW.out.size (.cells #[.int .i64 s.1, .slice Ax m cx] 78))
      clear hx hs hm
      go_wp2
      go_roundw
      case rel => exact ⟨i + 1, by omega, by first | exact congrArg _ y1 | (rw [y1]) | go_num, by go_num, HB2⟩
      case measure => simp [intOf]; omega
    · obtain rfl : i = p.length := by omega
      have z1 : decide ((p.length : Int) < (p.length : Int)) = false := by simp
      have e : lens (p.take p.length) = lens p := by rw [List.take_length]
      rw [e]
      go_wp2
      go_ret
      exact ⟨rfl, HBW.out⟩
end Go.Proofs.YtanmepgplpijkaaDoor.Att
