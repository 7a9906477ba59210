/- The reference's Good and Encode of an Open. -/
import Derived.Test.YtkkfnpacejdlnaaOpnEncP
import Derived.Test.YtkkfnpacejdlnaaOctBig
import Derived.Deep.RegionHeld3
namespace Go.Proofs.Ytkkfnpacejdlnaa.Opn
open Go.RowKit Mem Oct Att

theorem rholds_any (n : Int) (w : World) : Calls Try.prog 27 #[.int .i64 n] w (Tells (.bool (holdsB n)) w) := by
  rcases holdsB_cases n with ⟨rfl, e⟩ | ⟨h0, h1, e⟩ | ⟨h1, h2, e⟩ | ⟨h1, e⟩
  · rw [e]
    clear e
    go_enter Try.func27, Try.ntmps27
    go_wp2
    go_ret
    exact ⟨rfl, Below.refl _ _⟩
  · rw [e]
    clear e
    have y0 : (n == 0) = false := by simp [h0]
    have y1 : decide (2 < n) = false := by simp; omega
    clear h0 h1
    go_enter Try.func27, Try.ntmps27
    go_wp2
    go_ret
    exact ⟨rfl, Below.refl _ _⟩
  · rw [e]
    clear e
    have y0 : (n == 0) = false := by simp; omega
    have y1 : 2 < n := by omega
    have y2 : n < 65536 := by omega
    go_enter Try.func27, Try.ntmps27
    go_wp2
    go_ret
    exact ⟨rfl, Below.refl _ _⟩
  · rw [e]
    clear e
    have y0 : (n == 0) = false := by simp; omega
    have y1 : decide (n < 65536) = false := by simp; omega
    have y2 : 2 < n := by omega
    clear h1
    go_enter Try.func27, Try.ntmps27
    go_wp2
    go_ret
    exact ⟨rfl, Below.refl _ _⟩
theorem rgood_any (o : Op) (w : World) : Calls Try.prog 9 #[opn o] w (Tells (.bool (goodO o)) w) := by
  obtain ⟨an, hold, ri, fr⟩ := o
  unfold opn goodO
  dsimp only
  have CH := Go.Lib.hid (fun W => rholds_any hold W)
  have HX := Go.Lib.hid (Box4.new w 24 (.int .u32 an) (.int .i64 hold) (.int .u32 ri) (.bool fr))
  have HB := Go.Lib.hid ((Below.refl w.heap.size w).alloc (Nat.le_refl _) (.cells #[.int .u32 an, .int .i64 hold, .int .u32 ri, .bool fr] 24))
  obtain ⟨c0, c1, c2, c3⟩ := HX.out.cells
  generalize holdsB hold = hb at CH ⊢
  rcases Nat.eq_zero_or_pos an with rfl | h1
  · simp only [ne_eq, not_true_eq_false, decide_false, Bool.false_and]
    go_enter Try.func9, Try.ntmps9
    go_wp2
    go_ret
    exact ⟨rfl, HB.out⟩
  have y1 : ((an : Int) != 0) = true := by simp; omega
  rw [decide_eq_true (show an ≠ 0 by omega)]
  simp only [Bool.true_and]
  rcases Nat.eq_zero_or_pos ri with rfl | h2
  · simp only [ne_eq, not_true_eq_false, decide_false, Bool.false_and]
    go_enter Try.func9, Try.ntmps9
    go_wp2
    go_ret
    exact ⟨rfl, HB.out⟩
  have y2 : ((ri : Int) != 0) = true := by simp; omega
  rw [decide_eq_true (show ri ≠ 0 by omega)]
  simp only [Bool.true_and]
  by_cases h3 : an < 65536
  · have z1 : (an : Int) < 65536 := by omega
    rw [decide_eq_true h3]
    cases fr <;> cases hb <;> (go_enter Try.func9, Try.ntmps9; go_wp2_with (go_at_call 27; refine (CH.out _).mono ?_; rintro e x ⟨rfl, hb1⟩; have B1 := Go.Lib.hid (HB.out.trans (hb1.mono HB.out.size)); obtain ⟨c0, c1, c2, c3⟩ := (HX.out.keep hb1).cells; clear hb1); go_ret; exact ⟨rfl, B1.out⟩)
  · have z1 : decide ((an : Int) < 65536) = false := by simp; omega
    rw [decide_eq_false h3]
    cases fr <;> cases hb <;> (go_enter Try.func9, Try.ntmps9; go_wp2_with (go_at_call 27; refine (CH.out _).mono ?_; rintro e x ⟨rfl, hb1⟩; have B1 := Go.Lib.hid (HB.out.trans (hb1.mono HB.out.size)); obtain ⟨c0, c1, c2, c3⟩ := (HX.out.keep hb1).cells; clear hb1); go_ret; exact ⟨rfl, B1.out⟩)
/-- A box of an Open, and bytes that grow behind it. -/
structure BxO (w0 : World) (x0 x1 x2 x3 : Value) (v : Value) (n : Nat) (l : List Nat) (W : World) : Prop where
  b4 : Box4 W w0.heap.size 24 x0 x1 x2 x3
  own : W.ownsRow (w0.heap.size + 1) 5 1 v n (cells8 l)
  low : Below w0.heap.size w0 W
section
variable {w0 W W2 : World} {x0 x1 x2 x3 v v2 : Value} {l l2 : List Nat} {n n2 : Nat}
theorem BxO.below (h : BxO w0 x0 x1 x2 x3 v n l W) (hb : Below W.heap.size W W2) : BxO w0 x0 x1 x2 x3 v n l W2 :=
  ⟨h.b4.keep hb, own_keep h.own hb, h.low.trans (hb.mono h.low.size)⟩
theorem BxO.grow (h : BxO w0 x0 x1 x2 x3 v n l W) (hg : W.grownBy W2 v.ownBlock) (ho : W2.ownsRow (w0.heap.size + 1) 5 1 v2 n2 (cells8 l2)) : BxO w0 x0 x1 x2 x3 v2 n2 l2 W2 :=
  ⟨⟨(hg.block _ h.b4.lt (fun he => by have := (h.own.lt _ he.symm).1; omega)).trans h.b4.blk⟩, ho, h.low.trans (below_of_grown h.own hg h.b4.lt |>.mono (Nat.le_succ _))⟩
theorem bxo_start (w : World) (x0 x1 x2 x3 : Value) : BxO w x0 x1 x2 x3 (.slice (some ⟨w.heap.size + 1, 0, none⟩) 1 1) 1 [4] ((w.alloc (.cells #[x0, x1, x2, x3] 24)).alloc (.cells #[.int .u8 4] 5)) := by
  have hb : Below w.heap.size w (w.alloc (.cells #[x0, x1, x2, x3] 24)) := (Below.refl _ w).alloc (Nat.le_refl _) _
  have hs : (w.alloc (.cells #[x0, x1, x2, x3] 24)).heap.size = w.heap.size + 1 := by simp
  refine ⟨(Box4.new w _ x0 x1 x2 x3).keep ((Below.refl _ _).alloc (Nat.le_refl _) _), ?_, hb.alloc hb.size _⟩
  have h := own_one8 (w := w.alloc (.cells #[x0, x1, x2, x3] 24)) (base := w.heap.size + 1) (.int .u8 4) (by rw [hs]; exact Nat.le_refl _)
  rw [hs] at h
  exact h
end
def GivesB (n k : Nat) (w : World) (e : Ending) (w' : World) : Prop := ∃ A c, e = .returned (.slice A k c) ∧ Row w' 1 (.slice A k c) k (cells8 (big n k)) ∧ Below w.heap.size w w'
theorem bigk_any (n k : Nat) (hn : n < 18446744073709551616) (hk : k ≤ 4) (w : World) : Calls Try.prog 36 #[.int .u64 n, .int .i64 k] w (GivesB n k w) :=
  (big_any n k w hn hk).mono fun e w' h => by
    obtain ⟨A, c, h1, h2, h3⟩ := h
    rw [big_len] at h1 h2
    exact ⟨A, c, h1, Row.of_own h2, h3⟩
theorem one_row0 (w : World) : Row (w.alloc (.cells #[.int .u8 0] 5)) 1 (.slice (some ⟨w.heap.size, 0, none⟩) 1 1) 1 (cells8 [0]) := Row.one w _ _
theorem lit5 (w : World) : Row (w.alloc (.cells #[.int .u8 8, .int .u8 2, .int .u8 6, .int .u8 65, .int .u8 4] 5)).drew 1 (.slice (some ⟨w.heap.size, 0, none⟩) 5 5) 5 (cells8 [8, 2, 6, 65, 4]) := by
  have h := World.ownsRow_lit (base := w.heap.size) (e := 5) (size := 1) w #[.int .u8 8, .int .u8 2, .int .u8 6, .int .u8 65, .int .u8 4] 5 (Nat.le_refl _) (by decide) rfl
  exact (Row.of_own h).keep (Below.refl _ _).drew
set_option maxRecDepth 100000 in
set_option maxHeartbeats 4000000 in
theorem renc_tb (oa oh oi : Nat) (w : World) (h1 : oa < 4294967296) (h2 : oh < 65536) (h3 : oi < 4294967296) (hb : 65535 < oa) : Calls Try.prog 12 #[opn ⟨oa, oh, oi, true⟩] w (Gives8 (encO ⟨oa, oh, oi, true⟩) w) := by
  obtain ⟨i0, E0⟩ := elem8
  have hs : shortN oa = 23456 := by unfold shortN; rw [if_pos hb]
  have EE := Go.Lib.hid (show ([4] ++ big 23456 2) ++ big oh 2 ++ big oi 4 ++ [8, 2, 6, 65, 4] ++ big oa 4 = encO ⟨oa, oh, oi, true⟩ from by unfold encO; dsimp only; rw [hs, Int.toNat_natCast]; simp)
  have EL := Go.Lib.hid (show (encO ⟨oa, oh, oi, true⟩).length = 18 from by rw [← EE.out]; simp [big_len])
  unfold Gives8 opn
  dsimp only
  generalize encO ⟨oa, oh, oi, true⟩ = E at EE EL ⊢
  have CS := Go.Lib.hid (fun W => show Calls Try.prog 36 #[.int .u64 23456, .int .i64 2] W (GivesB 23456 2 W) from bigk_any 23456 2 (by omega) (by omega) W)
  have CH := Go.Lib.hid (fun W => show Calls Try.prog 36 #[.int .u64 oh, .int .i64 2] W (GivesB oh 2 W) from bigk_any oh 2 (by omega) (by omega) W)
  have CI := Go.Lib.hid (fun W => show Calls Try.prog 36 #[.int .u64 oi, .int .i64 4] W (GivesB oi 4 W) from bigk_any oi 4 (by omega) (by omega) W)
  have CA := Go.Lib.hid (fun W => show Calls Try.prog 36 #[.int .u64 oa, .int .i64 4] W (GivesB oa 4 W) from bigk_any oa 4 (by omega) (by omega) W)
  have wa : IntKind.u64.wrap (oa : Int) = (oa : Int) := by rw [IntKind.wrap_u64]; omega
  have wh : IntKind.u64.wrap (oh : Int) = (oh : Int) := by rw [IntKind.wrap_u64]; omega
  have wi : IntKind.u64.wrap (oi : Int) = (oi : Int) := by rw [IntKind.wrap_u64]; omega
  have z1 : (oa : Int) > 65535 := by omega
  have T0 := Go.Lib.hid (bxo_start w (.int .u32 oa) (.int .i64 oh) (.int .u32 oi) (.bool true))
  obtain ⟨q0, q1, q2, q3⟩ := (Box4.new w 24 (.int .u32 oa) (.int .i64 oh) (.int .u32 oi) (.bool true)).cells
  clear h1 h2 h3 hb hs
  go_enter Try.func12, Try.ntmps12
  go_wp2_with (first
    | (have h := T0.out; go_at_call 36; refine (CS.out _).mono ?_; rintro e z ⟨A2, k2, rfl, hu, hb⟩; have U1 := Go.Lib.hid hu; have T1 := Go.Lib.hid (h.below hb); clear hu hb h T0; clear q0 q1 q2 q3; obtain ⟨q0, q1, q2, q3⟩ := T1.out.b4.cells)
    | (have h := T1.out; at_builtin; refine wpList_append_row rfl (.tmp 10) (.tmp 12) rfl E0 (w.heap.size + 1) _ 1 _ rfl h.own _ 2 _ rfl U1.out (ones8 _) (by unfold maxLen; omega) (by omega) h.b4.lt 3 rfl ?_; intro A3 k3 z hown hgr hat hb1; rw [← cells8_append] at hown; have T2 := Go.Lib.hid (h.grow (v2 := .slice A3 3 k3) (n2 := 3) hgr hown); clear hown hgr hat hb1 h T1 U1; clear q0 q1 q2 q3; obtain ⟨q0, q1, q2, q3⟩ := T2.out.b4.cells))
  replace T2 := Go.Lib.hid (T2.out.below (Below.refl _ _).drew)
  clear q0 q1 q2 q3
  obtain ⟨q0, q1, q2, q3⟩ := T2.out.b4.cells
  go_region_held3 (fun w' => w'.cell? ⟨w.heap.size, 0, none⟩ = some (.int .u32 oa) ∧ w'.cell? ⟨w.heap.size, 1, none⟩ = some (.int .i64 oh) ∧ w'.cell? ⟨w.heap.size, 2, none⟩ = some (.int .u32 oi) ∧ w'.cell? ⟨w.heap.size, 3, none⟩ = some (.bool true)) (exact ⟨by assumption, by assumption, by assumption, by assumption⟩) (first
    | (have h := T2.out; go_at_call 36; first | (refine (CH.out _).mono ?_; rintro e z ⟨A2, k2, rfl, hu, hb⟩; have U3 := Go.Lib.hid hu; have T3 := Go.Lib.hid (h.below hb); clear hu hb h T2; clear q0 q1 q2 q3; obtain ⟨q0, q1, q2, q3⟩ := T3.out.b4.cells) | (trace "FELL T2"; trace_state; fail_if_success skip))
    | (have tok := U3.out
       have h := T3.out
       refine step_append_row (by rfl) (.tmp 14) (.tmp 18) (by rfl) E0 (w.heap.size + 1) _ 3 (cells8 ([4] ++ big 23456 2)) (by rfl) ?_ _ 2 (cells8 (big oh 2)) (by rfl) ?_ (ones8 _) ?_ ?_ ?_ 5 (by rfl) ?_
       · exact h.own
       · exact tok
       · unfold maxLen; omega
       · omega
       · exact h.b4.lt
       intro A4 k4 z hown hgr hat hb1
       rw [← cells8_append] at hown
       have T4 := Go.Lib.hid (h.grow (v2 := .slice A4 5 k4) (n2 := 5) hgr hown)
       clear hown hgr hat hb1 tok h U3 T3
       clear q0 q1 q2 q3; obtain ⟨q0, q1, q2, q3⟩ := T4.out.b4.cells)
    | (have h := T4.out; go_at_call 36; first | (refine (CI.out _).mono ?_; rintro e z ⟨A2, k2, rfl, hu, hb⟩; have U5 := Go.Lib.hid hu; have T5 := Go.Lib.hid (h.below hb); clear hu hb h T4; clear q0 q1 q2 q3; obtain ⟨q0, q1, q2, q3⟩ := T5.out.b4.cells) | (trace "FELL T4"; trace_state; fail_if_success skip))
    | (have tok := U5.out
       have h := T5.out
       refine step_append_row (by rfl) (.tmp 19) (.tmp 23) (by rfl) E0 (w.heap.size + 1) _ 5 (cells8 ([4] ++ big 23456 2 ++ big oh 2)) (by rfl) ?_ _ 4 (cells8 (big oi 4)) (by rfl) ?_ (ones8 _) ?_ ?_ ?_ 9 (by rfl) ?_
       · exact h.own
       · exact tok
       · unfold maxLen; omega
       · omega
       · exact h.b4.lt
       intro A6 k6 z hown hgr hat hb1
       rw [← cells8_append] at hown
       have T6 := Go.Lib.hid (h.grow (v2 := .slice A6 9 k6) (n2 := 9) hgr hown)
       clear hown hgr hat hb1 tok h U5 T5
       clear q0 q1 q2 q3; obtain ⟨q0, q1, q2, q3⟩ := T6.out.b4.cells))
  have U7 := Go.Lib.hid (lit5 z)
  have hl : Below z.heap.size z (z.alloc (.cells #[.int .u8 8, .int .u8 2, .int .u8 6, .int .u8 65, .int .u8 4] 5)).drew := ((Below.refl _ z).alloc (Nat.le_refl _) _).drew
  have T7 := Go.Lib.hid (T6.out.below hl)
  have T6d := Go.Lib.hid (T6.out.below (Below.refl _ _).drew)
  clear hl
  go_wp2
  clear q0 q1 q2 q3
  obtain ⟨q0, q1, q2, q3⟩ := T6d.out.b4.cells
  obtain ⟨e0, e1, e2, e3⟩ := T7.out.b4.cells
  clear T6
  go_region_held3 (fun w' => w'.cell? ⟨w.heap.size, 0, none⟩ = some (.int .u32 oa) ∧ w'.cell? ⟨w.heap.size, 1, none⟩ = some (.int .i64 oh) ∧ w'.cell? ⟨w.heap.size, 2, none⟩ = some (.int .u32 oi) ∧ w'.cell? ⟨w.heap.size, 3, none⟩ = some (.bool true)) (exact ⟨by assumption, by assumption, by assumption, by assumption⟩) (first
    | (have tok := U7.out
       have h := T7.out
       refine step_append_row (by rfl) (.tmp 31) (.tmp 32) (by rfl) E0 (w.heap.size + 1) _ 9 (cells8 ([4] ++ big 23456 2 ++ big oh 2 ++ big oi 4)) (by rfl) ?_ _ 5 (cells8 ([8, 2, 6, 65, 4])) (by rfl) ?_ (ones8 _) ?_ ?_ ?_ 14 (by rfl) ?_
       · exact h.own
       · exact tok
       · unfold maxLen; omega
       · omega
       · exact h.b4.lt
       intro A7 k7 z hown hgr hat hb1
       rw [← cells8_append] at hown
       have T8 := Go.Lib.hid (h.grow (v2 := .slice A7 14 k7) (n2 := 14) hgr hown)
       clear hown hgr hat hb1 tok h U7 T7
       clear q0 q1 q2 q3 e0 e1 e2 e3; obtain ⟨q0, q1, q2, q3⟩ := T8.out.b4.cells)
    | (have h := T8.out; go_at_call 36; first | (refine (CA.out _).mono ?_; rintro e z ⟨A2, k2, rfl, hu, hb⟩; have U9 := Go.Lib.hid hu; have T9 := Go.Lib.hid (h.below hb); clear hu hb h T8; clear q0 q1 q2 q3; obtain ⟨q0, q1, q2, q3⟩ := T9.out.b4.cells) | (trace "FELL T8"; trace_state; fail_if_success skip))
    | (have tok := U9.out
       have h := T9.out
       refine step_append_row (by rfl) (.tmp 33) (.tmp 37) (by rfl) E0 (w.heap.size + 1) _ 14 (cells8 ([4] ++ big 23456 2 ++ big oh 2 ++ big oi 4 ++ [8, 2, 6, 65, 4])) (by rfl) ?_ _ 4 (cells8 (big oa 4)) (by rfl) ?_ (ones8 _) ?_ ?_ ?_ 18 (by rfl) ?_
       · exact h.own
       · exact tok
       · unfold maxLen; omega
       · omega
       · exact h.b4.lt
       intro A9 k9 z hown hgr hat hb1
       rw [← cells8_append] at hown
       rw [EE.out] at hown
       have T10 := Go.Lib.hid (h.grow (v2 := .slice A9 18 k9) (n2 := 18) hgr hown)
       clear hown hgr hat hb1 tok h U9 T9
       clear q0 q1 q2 q3; obtain ⟨q0, q1, q2, q3⟩ := T10.out.b4.cells))
  go_wp2
  go_ret
  exact ⟨A9, k9, by rw [EL.out]; rfl, by rw [EL.out]; exact own_base T10.out.own (Nat.le_succ _), T10.out.low⟩
set_option maxRecDepth 100000 in
set_option maxHeartbeats 4000000 in
theorem renc_ts (oa oh oi : Nat) (w : World) (h1 : oa < 4294967296) (h2 : oh < 65536) (h3 : oi < 4294967296) (hb : ¬ 65535 < oa) : Calls Try.prog 12 #[opn ⟨oa, oh, oi, true⟩] w (Gives8 (encO ⟨oa, oh, oi, true⟩) w) := by
  obtain ⟨i0, E0⟩ := elem8
  have hs : shortN oa = oa := by unfold shortN; rw [if_neg hb]
  have EE := Go.Lib.hid (show ([4] ++ big oa 2) ++ big oh 2 ++ big oi 4 ++ [8, 2, 6, 65, 4] ++ big oa 4 = encO ⟨oa, oh, oi, true⟩ from by unfold encO; dsimp only; rw [hs, Int.toNat_natCast]; simp)
  have EL := Go.Lib.hid (show (encO ⟨oa, oh, oi, true⟩).length = 18 from by rw [← EE.out]; simp [big_len])
  unfold Gives8 opn
  dsimp only
  generalize encO ⟨oa, oh, oi, true⟩ = E at EE EL ⊢
  have CS := Go.Lib.hid (fun W => show Calls Try.prog 36 #[.int .u64 oa, .int .i64 2] W (GivesB oa 2 W) from bigk_any oa 2 (by omega) (by omega) W)
  have CH := Go.Lib.hid (fun W => show Calls Try.prog 36 #[.int .u64 oh, .int .i64 2] W (GivesB oh 2 W) from bigk_any oh 2 (by omega) (by omega) W)
  have CI := Go.Lib.hid (fun W => show Calls Try.prog 36 #[.int .u64 oi, .int .i64 4] W (GivesB oi 4 W) from bigk_any oi 4 (by omega) (by omega) W)
  have CA := Go.Lib.hid (fun W => show Calls Try.prog 36 #[.int .u64 oa, .int .i64 4] W (GivesB oa 4 W) from bigk_any oa 4 (by omega) (by omega) W)
  have wa : IntKind.u64.wrap (oa : Int) = (oa : Int) := by rw [IntKind.wrap_u64]; omega
  have wh : IntKind.u64.wrap (oh : Int) = (oh : Int) := by rw [IntKind.wrap_u64]; omega
  have wi : IntKind.u64.wrap (oi : Int) = (oi : Int) := by rw [IntKind.wrap_u64]; omega
  have z1 : (oa : Int) ≤ 65535 := by omega
  have T0 := Go.Lib.hid (bxo_start w (.int .u32 oa) (.int .i64 oh) (.int .u32 oi) (.bool true))
  obtain ⟨q0, q1, q2, q3⟩ := (Box4.new w 24 (.int .u32 oa) (.int .i64 oh) (.int .u32 oi) (.bool true)).cells
  clear h1 h2 h3 hb hs
  go_enter Try.func12, Try.ntmps12
  go_wp2_with (first
    | (have h := T0.out; go_at_call 36; refine (CS.out _).mono ?_; rintro e z ⟨A2, k2, rfl, hu, hb⟩; have U1 := Go.Lib.hid hu; have T1 := Go.Lib.hid (h.below hb); clear hu hb h T0; clear q0 q1 q2 q3; obtain ⟨q0, q1, q2, q3⟩ := T1.out.b4.cells)
    | (have h := T1.out; at_builtin; refine wpList_append_row rfl (.tmp 10) (.tmp 12) rfl E0 (w.heap.size + 1) _ 1 _ rfl h.own _ 2 _ rfl U1.out (ones8 _) (by unfold maxLen; omega) (by omega) h.b4.lt 3 rfl ?_; intro A3 k3 z hown hgr hat hb1; rw [← cells8_append] at hown; have T2 := Go.Lib.hid (h.grow (v2 := .slice A3 3 k3) (n2 := 3) hgr hown); clear hown hgr hat hb1 h T1 U1; clear q0 q1 q2 q3; obtain ⟨q0, q1, q2, q3⟩ := T2.out.b4.cells))
  replace T2 := Go.Lib.hid (T2.out.below (Below.refl _ _).drew)
  clear q0 q1 q2 q3
  obtain ⟨q0, q1, q2, q3⟩ := T2.out.b4.cells
  go_region_held3 (fun w' => w'.cell? ⟨w.heap.size, 0, none⟩ = some (.int .u32 oa) ∧ w'.cell? ⟨w.heap.size, 1, none⟩ = some (.int .i64 oh) ∧ w'.cell? ⟨w.heap.size, 2, none⟩ = some (.int .u32 oi) ∧ w'.cell? ⟨w.heap.size, 3, none⟩ = some (.bool true)) (exact ⟨by assumption, by assumption, by assumption, by assumption⟩) (first
    | (have h := T2.out; go_at_call 36; first | (refine (CH.out _).mono ?_; rintro e z ⟨A2, k2, rfl, hu, hb⟩; have U3 := Go.Lib.hid hu; have T3 := Go.Lib.hid (h.below hb); clear hu hb h T2; clear q0 q1 q2 q3; obtain ⟨q0, q1, q2, q3⟩ := T3.out.b4.cells) | (trace "FELL T2"; trace_state; fail_if_success skip))
    | (have tok := U3.out
       have h := T3.out
       refine step_append_row (by rfl) (.tmp 14) (.tmp 18) (by rfl) E0 (w.heap.size + 1) _ 3 (cells8 ([4] ++ big oa 2)) (by rfl) ?_ _ 2 (cells8 (big oh 2)) (by rfl) ?_ (ones8 _) ?_ ?_ ?_ 5 (by rfl) ?_
       · exact h.own
       · exact tok
       · unfold maxLen; omega
       · omega
       · exact h.b4.lt
       intro A4 k4 z hown hgr hat hb1
       rw [← cells8_append] at hown
       have T4 := Go.Lib.hid (h.grow (v2 := .slice A4 5 k4) (n2 := 5) hgr hown)
       clear hown hgr hat hb1 tok h U3 T3
       clear q0 q1 q2 q3; obtain ⟨q0, q1, q2, q3⟩ := T4.out.b4.cells)
    | (have h := T4.out; go_at_call 36; first | (refine (CI.out _).mono ?_; rintro e z ⟨A2, k2, rfl, hu, hb⟩; have U5 := Go.Lib.hid hu; have T5 := Go.Lib.hid (h.below hb); clear hu hb h T4; clear q0 q1 q2 q3; obtain ⟨q0, q1, q2, q3⟩ := T5.out.b4.cells) | (trace "FELL T4"; trace_state; fail_if_success skip))
    | (have tok := U5.out
       have h := T5.out
       refine step_append_row (by rfl) (.tmp 19) (.tmp 23) (by rfl) E0 (w.heap.size + 1) _ 5 (cells8 ([4] ++ big oa 2 ++ big oh 2)) (by rfl) ?_ _ 4 (cells8 (big oi 4)) (by rfl) ?_ (ones8 _) ?_ ?_ ?_ 9 (by rfl) ?_
       · exact h.own
       · exact tok
       · unfold maxLen; omega
       · omega
       · exact h.b4.lt
       intro A6 k6 z hown hgr hat hb1
       rw [← cells8_append] at hown
       have T6 := Go.Lib.hid (h.grow (v2 := .slice A6 9 k6) (n2 := 9) hgr hown)
       clear hown hgr hat hb1 tok h U5 T5
       clear q0 q1 q2 q3; obtain ⟨q0, q1, q2, q3⟩ := T6.out.b4.cells))
  have U7 := Go.Lib.hid (lit5 z)
  have hl : Below z.heap.size z (z.alloc (.cells #[.int .u8 8, .int .u8 2, .int .u8 6, .int .u8 65, .int .u8 4] 5)).drew := ((Below.refl _ z).alloc (Nat.le_refl _) _).drew
  have T7 := Go.Lib.hid (T6.out.below hl)
  have T6d := Go.Lib.hid (T6.out.below (Below.refl _ _).drew)
  clear hl
  go_wp2
  clear q0 q1 q2 q3
  obtain ⟨q0, q1, q2, q3⟩ := T6d.out.b4.cells
  obtain ⟨e0, e1, e2, e3⟩ := T7.out.b4.cells
  clear T6
  go_region_held3 (fun w' => w'.cell? ⟨w.heap.size, 0, none⟩ = some (.int .u32 oa) ∧ w'.cell? ⟨w.heap.size, 1, none⟩ = some (.int .i64 oh) ∧ w'.cell? ⟨w.heap.size, 2, none⟩ = some (.int .u32 oi) ∧ w'.cell? ⟨w.heap.size, 3, none⟩ = some (.bool true)) (exact ⟨by assumption, by assumption, by assumption, by assumption⟩) (first
    | (have tok := U7.out
       have h := T7.out
       refine step_append_row (by rfl) (.tmp 31) (.tmp 32) (by rfl) E0 (w.heap.size + 1) _ 9 (cells8 ([4] ++ big oa 2 ++ big oh 2 ++ big oi 4)) (by rfl) ?_ _ 5 (cells8 ([8, 2, 6, 65, 4])) (by rfl) ?_ (ones8 _) ?_ ?_ ?_ 14 (by rfl) ?_
       · exact h.own
       · exact tok
       · unfold maxLen; omega
       · omega
       · exact h.b4.lt
       intro A7 k7 z hown hgr hat hb1
       rw [← cells8_append] at hown
       have T8 := Go.Lib.hid (h.grow (v2 := .slice A7 14 k7) (n2 := 14) hgr hown)
       clear hown hgr hat hb1 tok h U7 T7
       clear q0 q1 q2 q3 e0 e1 e2 e3; obtain ⟨q0, q1, q2, q3⟩ := T8.out.b4.cells)
    | (have h := T8.out; go_at_call 36; first | (refine (CA.out _).mono ?_; rintro e z ⟨A2, k2, rfl, hu, hb⟩; have U9 := Go.Lib.hid hu; have T9 := Go.Lib.hid (h.below hb); clear hu hb h T8; clear q0 q1 q2 q3; obtain ⟨q0, q1, q2, q3⟩ := T9.out.b4.cells) | (trace "FELL T8"; trace_state; fail_if_success skip))
    | (have tok := U9.out
       have h := T9.out
       refine step_append_row (by rfl) (.tmp 33) (.tmp 37) (by rfl) E0 (w.heap.size + 1) _ 14 (cells8 ([4] ++ big oa 2 ++ big oh 2 ++ big oi 4 ++ [8, 2, 6, 65, 4])) (by rfl) ?_ _ 4 (cells8 (big oa 4)) (by rfl) ?_ (ones8 _) ?_ ?_ ?_ 18 (by rfl) ?_
       · exact h.own
       · exact tok
       · unfold maxLen; omega
       · omega
       · exact h.b4.lt
       intro A9 k9 z hown hgr hat hb1
       rw [← cells8_append] at hown
       rw [EE.out] at hown
       have T10 := Go.Lib.hid (h.grow (v2 := .slice A9 18 k9) (n2 := 18) hgr hown)
       clear hown hgr hat hb1 tok h U9 T9
       clear q0 q1 q2 q3; obtain ⟨q0, q1, q2, q3⟩ := T10.out.b4.cells))
  go_wp2
  go_ret
  exact ⟨A9, k9, by rw [EL.out]; rfl, by rw [EL.out]; exact own_base T10.out.own (Nat.le_succ _), T10.out.low⟩
set_option maxRecDepth 100000 in
set_option maxHeartbeats 4000000 in
theorem renc_fs (oa oh oi : Nat) (w : World) (h1 : oa < 4294967296) (h2 : oh < 65536) (h3 : oi < 4294967296) (hb : ¬ 65535 < oa) : Calls Try.prog 12 #[opn ⟨oa, oh, oi, false⟩] w (Gives8 (encO ⟨oa, oh, oi, false⟩) w) := by
  obtain ⟨i0, E0⟩ := elem8
  have hs : shortN oa = oa := by unfold shortN; rw [if_neg hb]
  have EE := Go.Lib.hid (show ([4] ++ big oa 2) ++ big oh 2 ++ big oi 4 ++ [0] = encO ⟨oa, oh, oi, false⟩ from by unfold encO; dsimp only; rw [hs, Int.toNat_natCast]; simp)
  have EL := Go.Lib.hid (show (encO ⟨oa, oh, oi, false⟩).length = 10 from by rw [← EE.out]; simp [big_len])
  unfold Gives8 opn
  dsimp only
  generalize encO ⟨oa, oh, oi, false⟩ = E at EE EL ⊢
  have CS := Go.Lib.hid (fun W => show Calls Try.prog 36 #[.int .u64 oa, .int .i64 2] W (GivesB oa 2 W) from bigk_any oa 2 (by omega) (by omega) W)
  have CH := Go.Lib.hid (fun W => show Calls Try.prog 36 #[.int .u64 oh, .int .i64 2] W (GivesB oh 2 W) from bigk_any oh 2 (by omega) (by omega) W)
  have CI := Go.Lib.hid (fun W => show Calls Try.prog 36 #[.int .u64 oi, .int .i64 4] W (GivesB oi 4 W) from bigk_any oi 4 (by omega) (by omega) W)
  have CA := Go.Lib.hid (fun W => show Calls Try.prog 36 #[.int .u64 oa, .int .i64 4] W (GivesB oa 4 W) from bigk_any oa 4 (by omega) (by omega) W)
  have wa : IntKind.u64.wrap (oa : Int) = (oa : Int) := by rw [IntKind.wrap_u64]; omega
  have wh : IntKind.u64.wrap (oh : Int) = (oh : Int) := by rw [IntKind.wrap_u64]; omega
  have wi : IntKind.u64.wrap (oi : Int) = (oi : Int) := by rw [IntKind.wrap_u64]; omega
  have z1 : (oa : Int) ≤ 65535 := by omega
  have T0 := Go.Lib.hid (bxo_start w (.int .u32 oa) (.int .i64 oh) (.int .u32 oi) (.bool false))
  obtain ⟨q0, q1, q2, q3⟩ := (Box4.new w 24 (.int .u32 oa) (.int .i64 oh) (.int .u32 oi) (.bool false)).cells
  clear h1 h2 h3 hb hs
  go_enter Try.func12, Try.ntmps12
  go_wp2_with (first
    | (have h := T0.out; go_at_call 36; refine (CS.out _).mono ?_; rintro e z ⟨A2, k2, rfl, hu, hb⟩; have U1 := Go.Lib.hid hu; have T1 := Go.Lib.hid (h.below hb); clear hu hb h T0; clear q0 q1 q2 q3; obtain ⟨q0, q1, q2, q3⟩ := T1.out.b4.cells)
    | (have h := T1.out; at_builtin; refine wpList_append_row rfl (.tmp 10) (.tmp 12) rfl E0 (w.heap.size + 1) _ 1 _ rfl h.own _ 2 _ rfl U1.out (ones8 _) (by unfold maxLen; omega) (by omega) h.b4.lt 3 rfl ?_; intro A3 k3 z hown hgr hat hb1; rw [← cells8_append] at hown; have T2 := Go.Lib.hid (h.grow (v2 := .slice A3 3 k3) (n2 := 3) hgr hown); clear hown hgr hat hb1 h T1 U1; clear q0 q1 q2 q3; obtain ⟨q0, q1, q2, q3⟩ := T2.out.b4.cells))
  replace T2 := Go.Lib.hid (T2.out.below (Below.refl _ _).drew)
  clear q0 q1 q2 q3
  obtain ⟨q0, q1, q2, q3⟩ := T2.out.b4.cells
  go_region_held3 (fun w' => w'.cell? ⟨w.heap.size, 0, none⟩ = some (.int .u32 oa) ∧ w'.cell? ⟨w.heap.size, 1, none⟩ = some (.int .i64 oh) ∧ w'.cell? ⟨w.heap.size, 2, none⟩ = some (.int .u32 oi) ∧ w'.cell? ⟨w.heap.size, 3, none⟩ = some (.bool false)) (exact ⟨by assumption, by assumption, by assumption, by assumption⟩) (first
    | (have h := T2.out; go_at_call 36; first | (refine (CH.out _).mono ?_; rintro e z ⟨A2, k2, rfl, hu, hb⟩; have U3 := Go.Lib.hid hu; have T3 := Go.Lib.hid (h.below hb); clear hu hb h T2; clear q0 q1 q2 q3; obtain ⟨q0, q1, q2, q3⟩ := T3.out.b4.cells) | (trace "FELL T2"; trace_state; fail_if_success skip))
    | (have tok := U3.out
       have h := T3.out
       refine step_append_row (by rfl) (.tmp 14) (.tmp 18) (by rfl) E0 (w.heap.size + 1) _ 3 (cells8 ([4] ++ big oa 2)) (by rfl) ?_ _ 2 (cells8 (big oh 2)) (by rfl) ?_ (ones8 _) ?_ ?_ ?_ 5 (by rfl) ?_
       · exact h.own
       · exact tok
       · unfold maxLen; omega
       · omega
       · exact h.b4.lt
       intro A4 k4 z hown hgr hat hb1
       rw [← cells8_append] at hown
       have T4 := Go.Lib.hid (h.grow (v2 := .slice A4 5 k4) (n2 := 5) hgr hown)
       clear hown hgr hat hb1 tok h U3 T3
       clear q0 q1 q2 q3; obtain ⟨q0, q1, q2, q3⟩ := T4.out.b4.cells)
    | (have h := T4.out; go_at_call 36; first | (refine (CI.out _).mono ?_; rintro e z ⟨A2, k2, rfl, hu, hb⟩; have U5 := Go.Lib.hid hu; have T5 := Go.Lib.hid (h.below hb); clear hu hb h T4; clear q0 q1 q2 q3; obtain ⟨q0, q1, q2, q3⟩ := T5.out.b4.cells) | (trace "FELL T4"; trace_state; fail_if_success skip))
    | (have tok := U5.out
       have h := T5.out
       refine step_append_row (by rfl) (.tmp 19) (.tmp 23) (by rfl) E0 (w.heap.size + 1) _ 5 (cells8 ([4] ++ big oa 2 ++ big oh 2)) (by rfl) ?_ _ 4 (cells8 (big oi 4)) (by rfl) ?_ (ones8 _) ?_ ?_ ?_ 9 (by rfl) ?_
       · exact h.own
       · exact tok
       · unfold maxLen; omega
       · omega
       · exact h.b4.lt
       intro A6 k6 z hown hgr hat hb1
       rw [← cells8_append] at hown
       have T6 := Go.Lib.hid (h.grow (v2 := .slice A6 9 k6) (n2 := 9) hgr hown)
       clear hown hgr hat hb1 tok h U5 T5
       clear q0 q1 q2 q3; obtain ⟨q0, q1, q2, q3⟩ := T6.out.b4.cells))
  have R7 := Go.Lib.hid (one_row0 z)
  have T7 := Go.Lib.hid (T6.out.below ((Below.refl _ z).alloc (Nat.le_refl _) (.cells #[.int .u8 0] 5)))
  go_wp2_with (have h := T7.out; at_builtin; first | (refine wpList_append_row rfl (.tmp 28) (.tmp 29) rfl E0 (w.heap.size + 1) _ 9 _ rfl h.own _ 1 (cells8 [0]) rfl R7.out (ones8 _) (by unfold maxLen; omega) (by omega) h.b4.lt 10 rfl ?_; intro A8 k8 z hown hgr hat hb1; rw [← cells8_append] at hown; rw [EE.out] at hown; have T8 := Go.Lib.hid (h.grow (v2 := .slice A8 10 k8) (n2 := 10) hgr hown); clear hown hgr hat hb1 h T7 R7) | (trace "FELL A8"; trace_state; fail_if_success skip))
  go_ret
  exact ⟨A8, k8, by rw [EL.out]; rfl, by rw [EL.out]; exact own_base T8.out.own (Nat.le_succ _), T8.out.low⟩
theorem rencode_any (o : Op) (w : World) (ho : o.ok) (hg : goodO o = true) : Calls Try.prog 12 #[opn o] w (Gives8 (encO o) w) := by
  obtain ⟨oa, oh, oi, fr⟩ := o
  have hg2 := hg
  unfold goodO holdsB at hg2
  simp only [Bool.and_eq_true, Bool.or_eq_true, decide_eq_true_eq] at hg2
  obtain ⟨h, rfl⟩ := Int.eq_ofNat_of_zero_le (show 0 ≤ oh by omega)
  by_cases hb : 65535 < oa
  · cases fr with
    | true => exact renc_tb oa h oi w ho.1 (by omega) ho.2.2 hb
    | false => exact absurd hg2.2 (by simp; omega)
  · cases fr with
    | true => exact renc_ts oa h oi w ho.1 (by omega) ho.2.2 hb
    | false => exact renc_fs oa h oi w ho.1 (by omega) ho.2.2 hb
end Go.Proofs.Ytkkfnpacejdlnaa.Opn
