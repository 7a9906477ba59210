/- The program's Encode of an Open. -/
import Derived.Test.YtkkfnpacejdlnaaOpnNext
import Derived.Deep.RegionHeld3
import Derived.IntWalk
namespace Go.Proofs.Ytkkfnpacejdlnaa.Opn
open Go.RowKit Mem Oct Att

theorem big_two (n : Nat) : [lo8 ((n : Int) / 256), lo8 (n : Int)] = big n 2 := by
  rw [big2, show lo8 ((n : Int) / 256) = n / 256 % 256 from by unfold lo8; omega, lo8_nat]
def parsB (o : Op) : List Nat := if o.four then [lo8 2] ++ sizedS (fourB o.an) else []
theorem enc_parts (o : Op) (h : Nat) (hh : o.hold = (h : Int)) : [] ++ [lo8 4] ++ [lo8 ((shortN o.an : Int) / 256), lo8 (shortN o.an : Int)] ++ [lo8 ((h : Int) / 256), lo8 (h : Int)] ++ big o.ri 4 ++ sizedS (parsB o) = encO o := by
  rw [big_two, big_two]
  unfold encO parsB
  rw [hh, Int.toNat_natCast]
  have e6 : (fourB o.an).length = 6 := by unfold fourB; simp [big_len]
  have e1 : sizedS (fourB o.an) = [6] ++ fourB o.an := by unfold sizedS; rw [if_pos (by rw [e6]; omega), e6]; rfl
  cases o.four with
  | true =>
    rw [if_pos rfl, if_pos rfl, e1]
    have e8 : ([lo8 2] ++ ([6] ++ fourB o.an)).length = 8 := by simp [e6]
    have e2 : sizedS ([lo8 2] ++ ([6] ++ fourB o.an)) = [8] ++ ([lo8 2] ++ ([6] ++ fourB o.an)) := by unfold sizedS; rw [if_pos (by rw [e8]; omega), e8]; rfl
    rw [e2]
    simp [fourB, show lo8 4 = 4 from rfl, show lo8 2 = 2 from rfl]
  | false =>
    rw [if_neg (by decide), if_neg (by decide)]
    simp [show lo8 4 = 4 from rfl, show sizedS [] = [0] from rfl]
/-- What Encode gives of a good Open. -/
def EncF (o : Op) (w : World) (e : Ending) (w' : World) : Prop :=
  ∃ A c, e = .returned (.tuple #[.slice A (encO o).length c, .int .i64 0]) ∧ w'.ownsRow w.heap.size 5 1 (.slice A (encO o).length c) (encO o).length (cells8 (encO o)) ∧ Below w.heap.size w w'
/-- A box of an Open, and two writers. -/
structure EnSt (w : World) (o0 o1 o2 o3 : Value) (w0 : World) (P1 P2 : Value) (l1 l2 : List Nat) (F1 F2 : Nat → Prop) (W : World) : Prop where
  box : Box4 w0 w.heap.size 24 o0 o1 o2 o3
  bel : Below w.heap.size w w0
  two : Two w0 P1 P2 l1 l2 F1 F2 W
section
variable {w w0 W W2 : World} {P1 P2 x o0 o1 o2 o3 : Value} {l1 l2 l : List Nat} {F1 F2 : Nat → Prop} {e : Ending}
theorem Two.as1 (h : Two w0 P1 P2 l1 l2 F1 F2 W) (e : l1 = l) : Two w0 P1 P2 l l2 F1 F2 W := e ▸ h
theorem EnSt.cells (h : EnSt w o0 o1 o2 o3 w0 P1 P2 l1 l2 F1 F2 W) : W.cell? ⟨w.heap.size, 0, none⟩ = some o0 ∧ W.cell? ⟨w.heap.size, 1, none⟩ = some o1 ∧ W.cell? ⟨w.heap.size, 2, none⟩ = some o2 ∧ W.cell? ⟨w.heap.size, 3, none⟩ = some o3 := (h.box.keep h.two.low).cells
theorem EnSt.below (h : EnSt w o0 o1 o2 o3 w0 P1 P2 l1 l2 F1 F2 W) (hb : Below W.heap.size W W2) : EnSt w o0 o1 o2 o3 w0 P1 P2 l1 l2 F1 F2 W2 := ⟨h.box, h.bel, h.two.below hb⟩
theorem EnSt.add1 (h : EnSt w o0 o1 o2 o3 w0 P1 P2 l1 l2 F1 F2 W) (k : AddF w0.heap.size P1 x l F1 W e W2) : ∃ F, e = .returned x ∧ EnSt w o0 o1 o2 o3 w0 P1 P2 l l2 F F2 W2 := by
  obtain ⟨F, h1, h2, -, -⟩ := h.two.add1 k
  exact ⟨F, h1, h.box, h.bel, h2⟩
theorem EnSt.add2 (h : EnSt w o0 o1 o2 o3 w0 P1 P2 l1 l2 F1 F2 W) (k : AddF w0.heap.size P2 x l F2 W e W2) : ∃ F, e = .returned x ∧ EnSt w o0 o1 o2 o3 w0 P1 P2 l1 l F1 F W2 := by
  obtain ⟨F, h1, h2, -, -⟩ := h.two.add2 k
  exact ⟨F, h1, h.box, h.bel, h2⟩
end
set_option maxRecDepth 100000 in
theorem enc_bad (o : Op) (w : World) (hg : goodO o = false) : Calls Try.prog 7 #[opn o] w (Tells (.tuple #[.slice none 0 0, .int .i64 1]) w) := by
  obtain ⟨oa, oh, oi, fr⟩ := o
  have CG := Go.Lib.hid (fun W => pgood_any ⟨oa, oh, oi, fr⟩ W)
  rw [hg] at CG
  unfold opn at CG ⊢
  dsimp only at CG ⊢
  have HX := Go.Lib.hid (Box4.new w 24 (.int .u32 oa) (.int .i64 oh) (.int .u32 oi) (.bool fr))
  have HB := Go.Lib.hid ((Below.refl w.heap.size w).alloc (Nat.le_refl _) (.cells #[.int .u32 oa, .int .i64 oh, .int .u32 oi, .bool fr] 24))
  obtain ⟨c0, c1, c2, c3⟩ := HX.out.cells
  clear hg
  go_enter Try.func7, Try.ntmps7
  go_wp2_with (go_at_call 8; refine (CG.out _).mono ?_; rintro e x ⟨rfl, hb⟩; have B1 := Go.Lib.hid (HB.out.trans (hb.mono HB.out.size)); clear hb)
  go_ret2
  exact ⟨rfl, B1.out⟩
theorem encO_small (o : Op) : Small (encO o) := by
  unfold encO
  refine Small.append (Small.append (Small.append (Small.append (by unfold Small; decide) (big_small _ _)) (big_small _ _)) (big_small _ _)) ?_
  split
  · exact Small.append (by unfold Small; decide) (big_small _ _)
  · unfold Small; decide
set_option maxRecDepth 100000 in
set_option maxHeartbeats 4000000 in
theorem enc_tb (oa oh oi : Nat) (w : World) (ho : (Op.mk oa oh oi true).ok) (hg : goodO ⟨oa, oh, oi, true⟩ = true) (hb : 65535 < oa) : Calls Try.prog 7 #[opn ⟨oa, oh, oi, true⟩] w (EncF ⟨oa, oh, oi, true⟩ w) := by
  have CG := Go.Lib.hid (fun W => pgood_any ⟨oa, oh, oi, true⟩ W)
  rw [hg] at CG
  have hs : shortN oa = 23456 := by unfold shortN; rw [if_pos hb]
  have hep := enc_parts ⟨oa, oh, oi, true⟩ oh rfl
  have hp : parsB ⟨oa, oh, oi, true⟩ = [] ++ [lo8 2] ++ sizedS (fourB oa) := by unfold parsB; rfl
  obtain ⟨PB, hPB⟩ : ∃ PB, PB = parsB ⟨oa, oh, oi, true⟩ := ⟨_, rfl⟩
  rw [← hPB] at hep
  replace hp := hp.symm.trans hPB.symm
  clear hPB
  dsimp only at hep
  rw [hs] at hep
  rw [show ((23456 : Nat) : Int) = 23456 from rfl] at hep
  have HEL := Go.Lib.hid (show (encO ⟨oa, oh, oi, true⟩).length ≤ 30 from by unfold encO; split <;> simp [big_len])
  have HPL := Go.Lib.hid (show PB.length ≤ 10 from by rw [← hp]; unfold sizedS fourB; simp [big_len])
  unfold opn at CG ⊢
  unfold EncF
  dsimp only at CG ⊢
  have hoa : oa < 4294967296 := ho.1
  have z1 : (oa : Int) > 65535 := by omega
  obtain ⟨E, hE⟩ : ∃ E, E = encO ⟨oa, oh, oi, true⟩ := ⟨_, rfl⟩
  rw [← hE] at hep HEL ⊢
  have HD := Go.Lib.hid (show (fourB oa).length = 6 from by unfold fourB; simp [big_len])
  have HDS := Go.Lib.hid (show Small (fourB oa) from Small.append (by unfold Small; decide) (big_small oa 4))
  have C4 := Go.Lib.hid (fun W => four_any oa W)
  have HPS := Go.Lib.hid (show Small PB from by rw [← hp]; exact Small.append (Small.append small_nil (by unfold Small; decide)) (by unfold sizedS; split; exact Small.append (fun x hx => by simp at hx; subst hx; exact lo8_lt _) HDS.out; exact small_nil))
  have HP := Go.Lib.hid hp
  generalize fourB oa = D at HD HDS C4 HP
  have EP := Go.Lib.hid hep
  have E4 := Go.Lib.hid (put4 oi)
  have HX := Go.Lib.hid (Box4.new w 24 (.int .u32 oa) (.int .i64 oh) (.int .u32 oi) (.bool true))
  have HB := Go.Lib.hid ((Below.refl w.heap.size w).alloc (Nat.le_refl _) (.cells #[.int .u32 oa, .int .i64 oh, .int .u32 oi, .bool true] 24))
  obtain ⟨c0, c1, c2, c3⟩ := HX.out.cells
  clear hep hp hE hs hg hb ho
  go_enter Try.func7, Try.ntmps7
  go_wp2_with (go_at_call 8; refine (CG.out _).mono ?_; rintro e x ⟨rfl, hb⟩; have T0 := Go.Lib.hid (EnSt.mk (HX.out.keep hb) (HB.out.trans (hb.mono HB.out.size)) (two_start x)); clear c0 c1 c2 c3; obtain ⟨c0, c1, c2, c3⟩ := (HX.out.keep hb).cells; obtain ⟨q0, q1, q2, q3⟩ := T0.out.cells; clear hb)
  replace T0 := Go.Lib.hid (T0.out.below (Below.refl _ _).drew)
  clear q0 q1 q2 q3
  obtain ⟨q0, q1, q2, q3⟩ := T0.out.cells
  go_region_held3 (fun w' => w'.cell? ⟨w.heap.size, 0, none⟩ = some (.int .u32 oa) ∧ w'.cell? ⟨w.heap.size, 1, none⟩ = some (.int .i64 oh) ∧ w'.cell? ⟨w.heap.size, 2, none⟩ = some (.int .u32 oi) ∧ w'.cell? ⟨w.heap.size, 3, none⟩ = some (.bool true)) (exact ⟨by assumption, by assumption, by assumption, by assumption⟩) (first
    | (have h := T0.out; go_at_call 20; first | (refine (w8_put _ _ _ _ 2 _ h.two.fst (by simp) h.two.low.size).mono ?_; intro e z hA; obtain ⟨F, rfl, hS⟩ := h.add1 hA; have T1 := Go.Lib.hid hS; clear h hA hS T0; clear q0 q1 q2 q3; obtain ⟨q0, q1, q2, q3⟩ := T1.out.cells) | (trace "FELL U8 T0"; trace_state; fail_if_success skip))
    | (have h := T1.out; go_at_call 22; first | (refine (C4.out _).mono ?_; rintro e z ⟨A, c, rfl, ho, hb⟩; have U := Go.Lib.hid (fun W3 => @own_apart8 _ _ W3 _ _ _ _ _ _ h.two.fst ho HDS.out); have T2 := Go.Lib.hid (h.below hb); clear h ho hb T1; clear q0 q1 q2 q3; obtain ⟨q0, q1, q2, q3⟩ := T2.out.cells) | (trace "FELL four"; trace_state; fail_if_success skip))
    | (have h := T2.out; go_at_call 21; first | (refine (sizedO_any _ A c _ _ D _ _ h.two.fst (fun W3 hk => U.out W3 hk) (by simp [HD.out]) h.two.low.size).mono ?_; intro e z hA; obtain ⟨F, rfl, hS⟩ := h.add1 hA; rw [HP.out] at hS; have T3 := Go.Lib.hid hS; clear h hA hS T2; clear q0 q1 q2 q3; obtain ⟨q0, q1, q2, q3⟩ := T3.out.cells) | (trace "FELL Sized T2"; trace_state; fail_if_success skip)))
  replace T3 := Go.Lib.hid (T3.out.below (Below.refl _ _).drew)
  clear q0 q1 q2 q3
  obtain ⟨q0, q1, q2, q3⟩ := T3.out.cells
  go_wp2
  go_region_held3 (fun w' => w'.cell? ⟨w.heap.size, 0, none⟩ = some (.int .u32 oa) ∧ w'.cell? ⟨w.heap.size, 1, none⟩ = some (.int .i64 oh) ∧ w'.cell? ⟨w.heap.size, 2, none⟩ = some (.int .u32 oi) ∧ w'.cell? ⟨w.heap.size, 3, none⟩ = some (.bool true)) (exact ⟨by assumption, by assumption, by assumption, by assumption⟩) (first
    | (have h := T3.out; go_at_call 20; first | (refine (w8_put _ _ _ _ 4 _ h.two.snd (by simp) h.two.low.size).mono ?_; intro e z hA; obtain ⟨F, rfl, hS⟩ := h.add2 hA; have T4 := Go.Lib.hid hS; clear h hA hS T3; clear q0 q1 q2 q3; obtain ⟨q0, q1, q2, q3⟩ := T4.out.cells) | (trace "FELL U8 T3"; trace_state; fail_if_success skip))
    | (have h := T4.out; go_at_call 23; first | (refine (w16_put _ _ _ _ 23456 _ h.two.snd (by simp) h.two.low.size).mono ?_; intro e z hA; obtain ⟨F, rfl, hS⟩ := h.add2 hA; have T5 := Go.Lib.hid hS; clear h hA hS T4; clear q0 q1 q2 q3; obtain ⟨q0, q1, q2, q3⟩ := T5.out.cells) | (trace "FELL U16 T4"; trace_state; fail_if_success skip))
    | (have h := T5.out; go_at_call 23; first | (refine (w16_put _ _ _ _ (oh : Int) _ h.two.snd (by simp) h.two.low.size).mono ?_; intro e z hA; obtain ⟨F, rfl, hS⟩ := h.add2 hA; have T6 := Go.Lib.hid hS; clear h hA hS T5; clear q0 q1 q2 q3; obtain ⟨q0, q1, q2, q3⟩ := T6.out.cells) | (trace "FELL U16 T5"; trace_state; fail_if_success skip))
    | (have h := T6.out; go_at_call 24; first | (refine (w32_put _ _ _ _ oi _ h.two.snd (by simp) h.two.low.size).mono ?_; intro e z hA; obtain ⟨F, rfl, hS⟩ := h.add2 hA; rw [E4.out] at hS; have T7 := Go.Lib.hid hS; clear h hA hS T6; clear q0 q1 q2 q3; obtain ⟨q0, q1, q2, q3⟩ := T7.out.cells) | (trace "FELL U32 T6"; trace_state; fail_if_success skip))
    | (have h := T7.out; go_at_call 25; first | (refine (wbytes_any _ _ _ _ _ h.two.fst (by have := HPL.out; omega)).mono ?_; rintro e z ⟨A2, c2, rfl, ho, hb⟩; have V := Go.Lib.hid (fun W3 => @own_apart8 _ _ W3 _ _ _ _ _ _ h.two.snd ho HPS.out); have T8 := Go.Lib.hid (h.below hb); clear h ho hb T7; clear q0 q1 q2 q3; obtain ⟨q0, q1, q2, q3⟩ := T8.out.cells) | (trace "FELL Bytes T7"; trace_state; fail_if_success skip))
    | (have h := T8.out; go_at_call 21; first | (refine (sizedO_any _ A2 c2 _ _ PB _ _ h.two.snd (fun W3 hk => V.out W3 hk) (by have := HPL.out; simp [big_len]; omega) h.two.low.size).mono ?_; intro e z hA; obtain ⟨F, rfl, hS⟩ := h.add2 hA; rw [EP.out] at hS; have T9 := Go.Lib.hid hS; clear h hA hS T8; clear q0 q1 q2 q3; obtain ⟨q0, q1, q2, q3⟩ := T9.out.cells) | (trace "FELL Sized T8"; trace_state; fail_if_success skip)))
  go_wp2_with (have h := T9.out; go_at_call 25; first | (refine (wbytes_any _ _ _ _ _ h.two.snd (by have := HEL.out; omega)).mono ?_; rintro e z ⟨A3, c3, rfl, ho, hb⟩; have T10 := Go.Lib.hid (And.intro ho (And.intro h.bel (And.intro h.two.low hb))); clear h ho hb T9 q0 q1 q2 q3) | (trace "FELL last"; trace_state; fail_if_success skip))
  go_ret2
  obtain ⟨h1, h2, h3, h4⟩ := T10.out
  have h5 := h2.trans (h3.mono h2.size)
  exact ⟨A3, c3, rfl, own_base h1 h5.size, h5.trans (h4.mono h5.size)⟩
set_option maxRecDepth 100000 in
set_option maxHeartbeats 4000000 in
theorem enc_ts (oa oh oi : Nat) (w : World) (ho : (Op.mk oa oh oi true).ok) (hg : goodO ⟨oa, oh, oi, true⟩ = true) (hb : ¬ 65535 < oa) : Calls Try.prog 7 #[opn ⟨oa, oh, oi, true⟩] w (EncF ⟨oa, oh, oi, true⟩ w) := by
  have CG := Go.Lib.hid (fun W => pgood_any ⟨oa, oh, oi, true⟩ W)
  rw [hg] at CG
  have hs : shortN oa = oa := by unfold shortN; rw [if_neg hb]
  have hep := enc_parts ⟨oa, oh, oi, true⟩ oh rfl
  have hp : parsB ⟨oa, oh, oi, true⟩ = [] ++ [lo8 2] ++ sizedS (fourB oa) := by unfold parsB; rfl
  obtain ⟨PB, hPB⟩ : ∃ PB, PB = parsB ⟨oa, oh, oi, true⟩ := ⟨_, rfl⟩
  rw [← hPB] at hep
  replace hp := hp.symm.trans hPB.symm
  clear hPB
  dsimp only at hep
  rw [hs] at hep
  skip
  have HEL := Go.Lib.hid (show (encO ⟨oa, oh, oi, true⟩).length ≤ 30 from by unfold encO; split <;> simp [big_len])
  have HPL := Go.Lib.hid (show PB.length ≤ 10 from by rw [← hp]; unfold sizedS fourB; simp [big_len])
  unfold opn at CG ⊢
  unfold EncF
  dsimp only at CG ⊢
  have hoa : oa < 4294967296 := ho.1
  have z1 : (oa : Int) ≤ 65535 := by omega
  have wo : IntKind.i64.wrap (oa : Int) = (oa : Int) := IntWalk.i64_in _ (by omega)
  obtain ⟨E, hE⟩ : ∃ E, E = encO ⟨oa, oh, oi, true⟩ := ⟨_, rfl⟩
  rw [← hE] at hep HEL ⊢
  have HD := Go.Lib.hid (show (fourB oa).length = 6 from by unfold fourB; simp [big_len])
  have HDS := Go.Lib.hid (show Small (fourB oa) from Small.append (by unfold Small; decide) (big_small oa 4))
  have C4 := Go.Lib.hid (fun W => four_any oa W)
  have HPS := Go.Lib.hid (show Small PB from by rw [← hp]; exact Small.append (Small.append small_nil (by unfold Small; decide)) (by unfold sizedS; split; exact Small.append (fun x hx => by simp at hx; subst hx; exact lo8_lt _) HDS.out; exact small_nil))
  have HP := Go.Lib.hid hp
  generalize fourB oa = D at HD HDS C4 HP
  have EP := Go.Lib.hid hep
  have E4 := Go.Lib.hid (put4 oi)
  have HX := Go.Lib.hid (Box4.new w 24 (.int .u32 oa) (.int .i64 oh) (.int .u32 oi) (.bool true))
  have HB := Go.Lib.hid ((Below.refl w.heap.size w).alloc (Nat.le_refl _) (.cells #[.int .u32 oa, .int .i64 oh, .int .u32 oi, .bool true] 24))
  obtain ⟨c0, c1, c2, c3⟩ := HX.out.cells
  clear hep hp hE hs hg hb ho
  go_enter Try.func7, Try.ntmps7
  go_wp2_with (go_at_call 8; refine (CG.out _).mono ?_; rintro e x ⟨rfl, hb⟩; have T0 := Go.Lib.hid (EnSt.mk (HX.out.keep hb) (HB.out.trans (hb.mono HB.out.size)) (two_start x)); clear c0 c1 c2 c3; obtain ⟨c0, c1, c2, c3⟩ := (HX.out.keep hb).cells; obtain ⟨q0, q1, q2, q3⟩ := T0.out.cells; clear hb)
  replace T0 := Go.Lib.hid (T0.out.below (Below.refl _ _).drew)
  clear q0 q1 q2 q3
  obtain ⟨q0, q1, q2, q3⟩ := T0.out.cells
  go_region_held3 (fun w' => w'.cell? ⟨w.heap.size, 0, none⟩ = some (.int .u32 oa) ∧ w'.cell? ⟨w.heap.size, 1, none⟩ = some (.int .i64 oh) ∧ w'.cell? ⟨w.heap.size, 2, none⟩ = some (.int .u32 oi) ∧ w'.cell? ⟨w.heap.size, 3, none⟩ = some (.bool true)) (exact ⟨by assumption, by assumption, by assumption, by assumption⟩) (first
    | (have h := T0.out; go_at_call 20; first | (refine (w8_put _ _ _ _ 2 _ h.two.fst (by simp) h.two.low.size).mono ?_; intro e z hA; obtain ⟨F, rfl, hS⟩ := h.add1 hA; have T1 := Go.Lib.hid hS; clear h hA hS T0; clear q0 q1 q2 q3; obtain ⟨q0, q1, q2, q3⟩ := T1.out.cells) | (trace "FELL U8 T0"; trace_state; fail_if_success skip))
    | (have h := T1.out; go_at_call 22; first | (refine (C4.out _).mono ?_; rintro e z ⟨A, c, rfl, ho, hb⟩; have U := Go.Lib.hid (fun W3 => @own_apart8 _ _ W3 _ _ _ _ _ _ h.two.fst ho HDS.out); have T2 := Go.Lib.hid (h.below hb); clear h ho hb T1; clear q0 q1 q2 q3; obtain ⟨q0, q1, q2, q3⟩ := T2.out.cells) | (trace "FELL four"; trace_state; fail_if_success skip))
    | (have h := T2.out; go_at_call 21; first | (refine (sizedO_any _ A c _ _ D _ _ h.two.fst (fun W3 hk => U.out W3 hk) (by simp [HD.out]) h.two.low.size).mono ?_; intro e z hA; obtain ⟨F, rfl, hS⟩ := h.add1 hA; rw [HP.out] at hS; have T3 := Go.Lib.hid hS; clear h hA hS T2; clear q0 q1 q2 q3; obtain ⟨q0, q1, q2, q3⟩ := T3.out.cells) | (trace "FELL Sized T2"; trace_state; fail_if_success skip)))
  replace T3 := Go.Lib.hid (T3.out.below (Below.refl _ _).drew)
  clear q0 q1 q2 q3
  obtain ⟨q0, q1, q2, q3⟩ := T3.out.cells
  go_wp2
  go_region_held3 (fun w' => w'.cell? ⟨w.heap.size, 0, none⟩ = some (.int .u32 oa) ∧ w'.cell? ⟨w.heap.size, 1, none⟩ = some (.int .i64 oh) ∧ w'.cell? ⟨w.heap.size, 2, none⟩ = some (.int .u32 oi) ∧ w'.cell? ⟨w.heap.size, 3, none⟩ = some (.bool true)) (exact ⟨by assumption, by assumption, by assumption, by assumption⟩) (first
    | (have h := T3.out; go_at_call 20; first | (refine (w8_put _ _ _ _ 4 _ h.two.snd (by simp) h.two.low.size).mono ?_; intro e z hA; obtain ⟨F, rfl, hS⟩ := h.add2 hA; have T4 := Go.Lib.hid hS; clear h hA hS T3; clear q0 q1 q2 q3; obtain ⟨q0, q1, q2, q3⟩ := T4.out.cells) | (trace "FELL U8 T3"; trace_state; fail_if_success skip))
    | (have h := T4.out; go_at_call 23; first | (refine (w16_put _ _ _ _ (oa : Int) _ h.two.snd (by simp) h.two.low.size).mono ?_; intro e z hA; obtain ⟨F, rfl, hS⟩ := h.add2 hA; have T5 := Go.Lib.hid hS; clear h hA hS T4; clear q0 q1 q2 q3; obtain ⟨q0, q1, q2, q3⟩ := T5.out.cells) | (trace "FELL U16 T4"; trace_state; fail_if_success skip))
    | (have h := T5.out; go_at_call 23; first | (refine (w16_put _ _ _ _ (oh : Int) _ h.two.snd (by simp) h.two.low.size).mono ?_; intro e z hA; obtain ⟨F, rfl, hS⟩ := h.add2 hA; have T6 := Go.Lib.hid hS; clear h hA hS T5; clear q0 q1 q2 q3; obtain ⟨q0, q1, q2, q3⟩ := T6.out.cells) | (trace "FELL U16 T5"; trace_state; fail_if_success skip))
    | (have h := T6.out; go_at_call 24; first | (refine (w32_put _ _ _ _ oi _ h.two.snd (by simp) h.two.low.size).mono ?_; intro e z hA; obtain ⟨F, rfl, hS⟩ := h.add2 hA; rw [E4.out] at hS; have T7 := Go.Lib.hid hS; clear h hA hS T6; clear q0 q1 q2 q3; obtain ⟨q0, q1, q2, q3⟩ := T7.out.cells) | (trace "FELL U32 T6"; trace_state; fail_if_success skip))
    | (have h := T7.out; go_at_call 25; first | (refine (wbytes_any _ _ _ _ _ h.two.fst (by have := HPL.out; omega)).mono ?_; rintro e z ⟨A2, c2, rfl, ho, hb⟩; have V := Go.Lib.hid (fun W3 => @own_apart8 _ _ W3 _ _ _ _ _ _ h.two.snd ho HPS.out); have T8 := Go.Lib.hid (h.below hb); clear h ho hb T7; clear q0 q1 q2 q3; obtain ⟨q0, q1, q2, q3⟩ := T8.out.cells) | (trace "FELL Bytes T7"; trace_state; fail_if_success skip))
    | (have h := T8.out; go_at_call 21; first | (refine (sizedO_any _ A2 c2 _ _ PB _ _ h.two.snd (fun W3 hk => V.out W3 hk) (by have := HPL.out; simp [big_len]; omega) h.two.low.size).mono ?_; intro e z hA; obtain ⟨F, rfl, hS⟩ := h.add2 hA; rw [EP.out] at hS; have T9 := Go.Lib.hid hS; clear h hA hS T8; clear q0 q1 q2 q3; obtain ⟨q0, q1, q2, q3⟩ := T9.out.cells) | (trace "FELL Sized T8"; trace_state; fail_if_success skip)))
  go_wp2_with (have h := T9.out; go_at_call 25; first | (refine (wbytes_any _ _ _ _ _ h.two.snd (by have := HEL.out; omega)).mono ?_; rintro e z ⟨A3, c3, rfl, ho, hb⟩; have T10 := Go.Lib.hid (And.intro ho (And.intro h.bel (And.intro h.two.low hb))); clear h ho hb T9 q0 q1 q2 q3) | (trace "FELL last"; trace_state; fail_if_success skip))
  go_ret2
  obtain ⟨h1, h2, h3, h4⟩ := T10.out
  have h5 := h2.trans (h3.mono h2.size)
  exact ⟨A3, c3, rfl, own_base h1 h5.size, h5.trans (h4.mono h5.size)⟩
set_option maxRecDepth 100000 in
set_option maxHeartbeats 4000000 in
theorem enc_fs (oa oh oi : Nat) (w : World) (ho : (Op.mk oa oh oi false).ok) (hg : goodO ⟨oa, oh, oi, false⟩ = true) (hb : ¬ 65535 < oa) : Calls Try.prog 7 #[opn ⟨oa, oh, oi, false⟩] w (EncF ⟨oa, oh, oi, false⟩ w) := by
  have CG := Go.Lib.hid (fun W => pgood_any ⟨oa, oh, oi, false⟩ W)
  rw [hg] at CG
  have hs : shortN oa = oa := by unfold shortN; rw [if_neg hb]
  have hep := enc_parts ⟨oa, oh, oi, false⟩ oh rfl
  have hp : parsB ⟨oa, oh, oi, false⟩ = [] := by unfold parsB; rfl
  obtain ⟨PB, hPB⟩ : ∃ PB, PB = parsB ⟨oa, oh, oi, false⟩ := ⟨_, rfl⟩
  rw [← hPB] at hep
  replace hp := hp.symm.trans hPB.symm
  clear hPB
  dsimp only at hep
  rw [hs] at hep
  skip
  have HEL := Go.Lib.hid (show (encO ⟨oa, oh, oi, false⟩).length ≤ 30 from by unfold encO; split <;> simp [big_len])
  have HPL := Go.Lib.hid (show PB.length ≤ 10 from by rw [← hp]; decide)
  unfold opn at CG ⊢
  unfold EncF
  dsimp only at CG ⊢
  have hoa : oa < 4294967296 := ho.1
  have z1 : (oa : Int) ≤ 65535 := by omega
  have wo : IntKind.i64.wrap (oa : Int) = (oa : Int) := IntWalk.i64_in _ (by omega)
  obtain ⟨E, hE⟩ : ∃ E, E = encO ⟨oa, oh, oi, false⟩ := ⟨_, rfl⟩
  rw [← hE] at hep HEL ⊢
  have HPS := Go.Lib.hid (show Small PB from by rw [← hp]; exact small_nil)
  have HP := Go.Lib.hid hp
  have EP := Go.Lib.hid hep
  have E4 := Go.Lib.hid (put4 oi)
  have HX := Go.Lib.hid (Box4.new w 24 (.int .u32 oa) (.int .i64 oh) (.int .u32 oi) (.bool false))
  have HB := Go.Lib.hid ((Below.refl w.heap.size w).alloc (Nat.le_refl _) (.cells #[.int .u32 oa, .int .i64 oh, .int .u32 oi, .bool false] 24))
  obtain ⟨c0, c1, c2, c3⟩ := HX.out.cells
  clear hep hp hE hs hg hb ho
  go_enter Try.func7, Try.ntmps7
  go_wp2_with (go_at_call 8; refine (CG.out _).mono ?_; rintro e x ⟨rfl, hb⟩; have T0 := Go.Lib.hid (EnSt.mk (HX.out.keep hb) (HB.out.trans (hb.mono HB.out.size)) ((two_start x).as1 HP.out)); clear c0 c1 c2 c3; obtain ⟨c0, c1, c2, c3⟩ := (HX.out.keep hb).cells; obtain ⟨q0, q1, q2, q3⟩ := T0.out.cells; clear hb)
  replace T0 := Go.Lib.hid (T0.out.below (Below.refl _ _).drew)
  clear q0 q1 q2 q3
  obtain ⟨q0, q1, q2, q3⟩ := T0.out.cells
  go_region_held3 (fun w' => w'.cell? ⟨w.heap.size, 0, none⟩ = some (.int .u32 oa) ∧ w'.cell? ⟨w.heap.size, 1, none⟩ = some (.int .i64 oh) ∧ w'.cell? ⟨w.heap.size, 2, none⟩ = some (.int .u32 oi) ∧ w'.cell? ⟨w.heap.size, 3, none⟩ = some (.bool false)) (exact ⟨by assumption, by assumption, by assumption, by assumption⟩) (first
    | (have h := T0.out; go_at_call 20; first | (refine (w8_put _ _ _ _ 4 _ h.two.snd (by simp) h.two.low.size).mono ?_; intro e z hA; obtain ⟨F, rfl, hS⟩ := h.add2 hA; have T4 := Go.Lib.hid hS; clear h hA hS T0; clear q0 q1 q2 q3; obtain ⟨q0, q1, q2, q3⟩ := T4.out.cells) | (trace "FELL U8 T0"; trace_state; fail_if_success skip))
    | (have h := T4.out; go_at_call 23; first | (refine (w16_put _ _ _ _ (oa : Int) _ h.two.snd (by simp) h.two.low.size).mono ?_; intro e z hA; obtain ⟨F, rfl, hS⟩ := h.add2 hA; have T5 := Go.Lib.hid hS; clear h hA hS T4; clear q0 q1 q2 q3; obtain ⟨q0, q1, q2, q3⟩ := T5.out.cells) | (trace "FELL U16 T4"; trace_state; fail_if_success skip))
    | (have h := T5.out; go_at_call 23; first | (refine (w16_put _ _ _ _ (oh : Int) _ h.two.snd (by simp) h.two.low.size).mono ?_; intro e z hA; obtain ⟨F, rfl, hS⟩ := h.add2 hA; have T6 := Go.Lib.hid hS; clear h hA hS T5; clear q0 q1 q2 q3; obtain ⟨q0, q1, q2, q3⟩ := T6.out.cells) | (trace "FELL U16 T5"; trace_state; fail_if_success skip))
    | (have h := T6.out; go_at_call 24; first | (refine (w32_put _ _ _ _ oi _ h.two.snd (by simp) h.two.low.size).mono ?_; intro e z hA; obtain ⟨F, rfl, hS⟩ := h.add2 hA; rw [E4.out] at hS; have T7 := Go.Lib.hid hS; clear h hA hS T6; clear q0 q1 q2 q3; obtain ⟨q0, q1, q2, q3⟩ := T7.out.cells) | (trace "FELL U32 T6"; trace_state; fail_if_success skip))
    | (have h := T7.out; go_at_call 25; first | (refine (wbytes_any _ _ _ _ _ h.two.fst (by have := HPL.out; omega)).mono ?_; rintro e z ⟨A2, c2, rfl, ho, hb⟩; have V := Go.Lib.hid (fun W3 => @own_apart8 _ _ W3 _ _ _ _ _ _ h.two.snd ho HPS.out); have T8 := Go.Lib.hid (h.below hb); clear h ho hb T7; clear q0 q1 q2 q3; obtain ⟨q0, q1, q2, q3⟩ := T8.out.cells) | (trace "FELL Bytes T7"; trace_state; fail_if_success skip))
    | (have h := T8.out; go_at_call 21; first | (refine (sizedO_any _ A2 c2 _ _ PB _ _ h.two.snd (fun W3 hk => V.out W3 hk) (by have := HPL.out; simp [big_len]; omega) h.two.low.size).mono ?_; intro e z hA; obtain ⟨F, rfl, hS⟩ := h.add2 hA; rw [EP.out] at hS; have T9 := Go.Lib.hid hS; clear h hA hS T8; clear q0 q1 q2 q3; obtain ⟨q0, q1, q2, q3⟩ := T9.out.cells) | (trace "FELL Sized T8"; trace_state; fail_if_success skip)))
  go_wp2_with (have h := T9.out; go_at_call 25; first | (refine (wbytes_any _ _ _ _ _ h.two.snd (by have := HEL.out; omega)).mono ?_; rintro e z ⟨A3, c3, rfl, ho, hb⟩; have T10 := Go.Lib.hid (And.intro ho (And.intro h.bel (And.intro h.two.low hb))); clear h ho hb T9 q0 q1 q2 q3) | (trace "FELL last"; trace_state; fail_if_success skip))
  go_ret2
  obtain ⟨h1, h2, h3, h4⟩ := T10.out
  have h5 := h2.trans (h3.mono h2.size)
  exact ⟨A3, c3, rfl, own_base h1 h5.size, h5.trans (h4.mono h5.size)⟩
theorem encode_any (o : Op) (w : World) (ho : o.ok) : Calls Try.prog 7 #[opn o] w (fun e w' => if goodO o = true then EncF o w e w' else Tells (.tuple #[.slice none 0 0, .int .i64 1]) w e w') := by
  by_cases hg : goodO o = true
  · simp only [hg, if_true]
    obtain ⟨oa, oh, oi, fr⟩ := o
    have hg2 := hg
    unfold goodO holdsB at hg2
    simp only [Bool.and_eq_true, Bool.or_eq_true, decide_eq_true_eq] at hg2
    obtain ⟨h, rfl⟩ := Int.eq_ofNat_of_zero_le (show 0 ≤ oh by omega)
    by_cases hb : 65535 < oa
    · cases fr with
      | true => exact enc_tb oa h oi w ho hg hb
      | false => exact absurd hg2.2 (by simp; omega)
    · cases fr with
      | true => exact enc_ts oa h oi w ho hg hb
      | false => exact enc_fs oa h oi w ho hg hb
  · have hg2 : goodO o = false := by simpa using hg
    simp only [hg2, Bool.false_eq_true, if_false]
    exact enc_bad o w hg2
end Go.Proofs.Ytkkfnpacejdlnaa.Opn
