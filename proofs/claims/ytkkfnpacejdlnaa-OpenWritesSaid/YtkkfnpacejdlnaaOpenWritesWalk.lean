/- OpenWrites' walk. -/
import Derived.Test.YtkkfnpacejdlnaaOpenReadsWalk
import Derived.Test.YtkkfnpacejdlnaaTakeKit
namespace Go.Proofs.Ytkkfnpacejdlnaa.Opn
open Go.RowKit Mem Oct Att

/-- A law's Open in its box. -/
structure WrSt (w : World) (o0 o1 o2 o3 : Value) (W : World) : Prop where
  bo : Box4 W w.heap.size 24 o0 o1 o2 o3
  low : Below w.heap.size w W
theorem WrSt.below {w W W2 : World} {o0 o1 o2 o3 : Value} (h : WrSt w o0 o1 o2 o3 W) (hb : Below W.heap.size W W2) : WrSt w o0 o1 o2 o3 W2 := ⟨h.bo.keep hb, h.low.trans (hb.mono h.low.size)⟩
theorem wr_start (w : World) (o0 o1 o2 o3 : Value) : WrSt w o0 o1 o2 o3 (w.alloc (.cells #[o0, o1, o2, o3] 24)) := ⟨Box4.new _ _ _ _ _ _, (Below.refl _ w).alloc (Nat.le_refl _) _⟩
set_option maxRecDepth 100000 in
set_option maxHeartbeats 8000000 in
theorem writes_bad (oa oi : Nat) (oh : Int) (fr : Bool) (w : World) (ho : (Op.mk oa oh oi fr).ok) (hg : goodO ⟨oa, oh, oi, fr⟩ = false) : Calls Try.prog 3 #[opn ⟨oa, oh, oi, fr⟩] w (Tells (.bool true) w) := by
  have CL := Go.Lib.hid lives9_any
  have CG := Go.Lib.hid (fun W => pgood_any ⟨oa, oh, oi, fr⟩ W)
  have CH := Go.Lib.hid (fun W => rgood_any ⟨oa, oh, oi, fr⟩ W)
  have CE0 := encode_any ⟨oa, oh, oi, fr⟩
  rw [hg] at CG CH
  simp only [hg] at CE0
  simp only [Bool.false_eq_true, if_false] at CE0
  have CE := Go.Lib.hid (CE0 (w.alloc (.cells #[.int .u32 oa, .int .i64 oh, .int .u32 oi, .bool fr] 24)) ho)
  unfold opn at CE CG CH ⊢
  dsimp only at CE CG CH ⊢
  have X0 := Go.Lib.hid (wr_start w (.int .u32 oa) (.int .i64 oh) (.int .u32 oi) (.bool fr))
  have T0 := Go.Lib.hid True.intro
  obtain ⟨q0, q1, q2, q3⟩ := X0.out.bo.cells
  clear CE0 ho hg
  go_enter Try.func3, Try.ntmps3
  go_upto_region 2 with (go_at_call 7; refine (CE.out).mono ?_; rintro e z ⟨rfl, hb⟩; replace X0 := Go.Lib.hid (X0.out.below hb); clear hb; clear q0 q1 q2 q3; obtain ⟨q0, q1, q2, q3⟩ := X0.out.bo.cells)
  go_wp2
  replace X0 := Go.Lib.hid (X0.out.below (Below.refl _ _).drew)
  clear q0 q1 q2 q3
  obtain ⟨q0, q1, q2, q3⟩ := X0.out.bo.cells
  go_region_held3 (fun w' => w'.cell? ⟨w.heap.size, 0, none⟩ = some (.int .u32 oa) ∧ w'.cell? ⟨w.heap.size, 1, none⟩ = some (.int .i64 oh) ∧ w'.cell? ⟨w.heap.size, 2, none⟩ = some (.int .u32 oi) ∧ w'.cell? ⟨w.heap.size, 3, none⟩ = some (.bool fr)) (exact ⟨by assumption, by assumption, by assumption, by assumption⟩) (first
    | (have tok := T0.out; go_at_call 8; first | (refine (CG.out _).mono ?_; rintro e z ⟨rfl, hb⟩; replace X0 := Go.Lib.hid (X0.out.below hb); clear hb tok T0; have T1 := Go.Lib.hid True.intro; clear q0 q1 q2 q3; obtain ⟨q0, q1, q2, q3⟩ := X0.out.bo.cells) | (trace "FELL G"; trace_state; fail_if_success skip))
    | (have tok := T1.out; go_at_call 9; first | (refine (CH.out _).mono ?_; rintro e z ⟨rfl, hb⟩; replace X0 := Go.Lib.hid (X0.out.below hb); clear hb tok T1; have T2 := Go.Lib.hid True.intro; clear q0 q1 q2 q3; obtain ⟨q0, q1, q2, q3⟩ := X0.out.bo.cells) | (trace "FELL H"; trace_state; fail_if_success skip)))
  go_wp2_with (first
    | (have tok := T2.out; go_at_call 9; refine (CH.out _).mono ?_; rintro e z ⟨rfl, hb⟩; replace X0 := Go.Lib.hid (X0.out.below hb); clear hb tok T2 q0 q1 q2 q3)
    | (go_at_call 10; refine (CL.out _).mono ?_; rintro e z ⟨rfl, hb⟩; replace X0 := Go.Lib.hid (X0.out.below hb); clear hb))
  go_ret
  exact ⟨rfl, X0.out.low⟩
set_option maxRecDepth 100000 in
set_option maxHeartbeats 8000000 in
theorem writes_good (oa oi : Nat) (oh : Int) (fr : Bool) (w : World) (ho : (Op.mk oa oh oi fr).ok) (hg : goodO ⟨oa, oh, oi, fr⟩ = true) : Calls Try.prog 3 #[opn ⟨oa, oh, oi, fr⟩] w (Tells (.bool true) w) := by
  have CL := Go.Lib.hid lives9_any
  have CG := Go.Lib.hid (fun W => pgood_any ⟨oa, oh, oi, fr⟩ W)
  have CH := Go.Lib.hid (fun W => rgood_any ⟨oa, oh, oi, fr⟩ W)
  have CE0 := encode_any ⟨oa, oh, oi, fr⟩
  rw [hg] at CG CH
  simp only [hg] at CE0
  simp only [if_true] at CE0
  have CE := Go.Lib.hid (CE0 (w.alloc (.cells #[.int .u32 oa, .int .i64 oh, .int .u32 oi, .bool fr] 24)) ho)
  have CF := Go.Lib.hid (fun W => rencode_any ⟨oa, oh, oi, fr⟩ W ho hg)
  obtain ⟨E, hE⟩ : ∃ E, E = encO ⟨oa, oh, oi, fr⟩ := ⟨_, rfl⟩
  have HEL := Go.Lib.hid (show E.length ≤ 400 from by rw [hE]; unfold encO; split <;> simp [big_len])
  have HES := Go.Lib.hid (show Small E from by rw [hE]; exact encO_small _)
  have hq : outO (decO E) = (⟨oa, oh, oi, fr⟩, ⟨0, 0, []⟩) := by rw [hE, dec_encO hg ho]; rfl
  have CD := Go.Lib.hid (fun v W (h : U8s W v E) => (decode_p v E W h HEL.out).mono fun e w' hd => dec_open hq hd)
  have CT := Go.Lib.hid (fun v1 W (h1 : Note W v1 ⟨0, 0, []⟩) => show Calls Try.prog 13 #[v1, .agg #[.int .i64 0, .int .i64 0, .slice none 0 0]] W (Tells (.bool true) W) from by
    have h := told_any v1 (.agg #[.int .i64 0, .int .i64 0, .slice none 0 0]) _ ⟨0, 0, []⟩ W h1 ⟨show (Lit.int .i64 0).wf = true by decide, show (Lit.int .i64 0).wf = true by decide, _, rfl, U8s.nil _⟩
    rw [sameN_iff.2 rfl] at h
    exact h)
  unfold EncF opn at CE
  unfold opn at CG CH CF ⊢
  dsimp only at CE CG CH ⊢
  rw [← hE] at CE CF
  clear CE0 ho hg hE hq
  obtain ⟨i0, E0⟩ := elem8
  have X0 := Go.Lib.hid (wr_start w (.int .u32 oa) (.int .i64 oh) (.int .u32 oi) (.bool fr))
  have T0 := Go.Lib.hid True.intro
  obtain ⟨q0, q1, q2, q3⟩ := X0.out.bo.cells
  have x1 := txt_same E
  go_enter Try.func3, Try.ntmps3
  go_upto_region 2 with (go_at_call 7; first | (refine (CE.out).mono ?_; rintro e z1 ⟨A1, c1, rfl, hu, hb⟩; have U1 := Go.Lib.hid (U8s.of_own hu HES.out); replace X0 := Go.Lib.hid (X0.out.below hb); clear hb hu; clear q0 q1 q2 q3; obtain ⟨q0, q1, q2, q3⟩ := X0.out.bo.cells) | (trace "FELL E"; trace_state; fail_if_success skip))
  go_wp2
  replace X0 := Go.Lib.hid (X0.out.below (Below.refl _ _).drew)
  clear q0 q1 q2 q3
  obtain ⟨q0, q1, q2, q3⟩ := X0.out.bo.cells
  replace U1 := Go.Lib.hid (U1.out.keep (Below.refl _ _).drew)
  go_region_held3 (fun w' => w'.cell? ⟨w.heap.size, 0, none⟩ = some (.int .u32 oa) ∧ w'.cell? ⟨w.heap.size, 1, none⟩ = some (.int .i64 oh) ∧ w'.cell? ⟨w.heap.size, 2, none⟩ = some (.int .u32 oi) ∧ w'.cell? ⟨w.heap.size, 3, none⟩ = some (.bool fr)) (exact ⟨by assumption, by assumption, by assumption, by assumption⟩) (first
    | (have tok := T0.out; go_at_call 8; first | (refine (CG.out _).mono ?_; rintro e z ⟨rfl, hb⟩; replace X0 := Go.Lib.hid (X0.out.below hb); replace U1 := Go.Lib.hid (U1.out.keep hb); clear hb tok T0; have T1 := Go.Lib.hid True.intro; clear q0 q1 q2 q3; obtain ⟨q0, q1, q2, q3⟩ := X0.out.bo.cells) | (trace "FELL G"; trace_state; fail_if_success skip))
    | (have tok := T1.out; go_at_call 9; first | (refine (CH.out _).mono ?_; rintro e z ⟨rfl, hb⟩; replace X0 := Go.Lib.hid (X0.out.below hb); replace U1 := Go.Lib.hid (U1.out.keep hb); clear hb tok T1; have T2 := Go.Lib.hid True.intro; clear q0 q1 q2 q3; obtain ⟨q0, q1, q2, q3⟩ := X0.out.bo.cells) | (trace "FELL H"; trace_state; fail_if_success skip)))
  go_upto_region 7 with (first
    | (have tok := T2.out; go_at_call 9; first | (refine (CH.out _).mono ?_; rintro e z3 ⟨rfl, hb⟩; have hb2 : Below z3.heap.size z3 (z3.alloc (.cells #[] 5)) := (Below.refl _ _).alloc (Nat.le_refl _) _; have O3 := Go.Lib.hid (own_blk (W := z3.alloc (.cells #[] 5)) (base := z3.heap.size) (B := z3.heap.size) (Nat.le_refl _) (heap_alloc_new _ _)); have U2 := Go.Lib.hid (U1.out.keep hb); have U3 := Go.Lib.hid ((U1.out.keep hb).keep hb2); have X3 := Go.Lib.hid (X0.out.below hb); have HB2 := Go.Lib.hid hb2; clear hb hb2 tok T2 q0 q1 q2 q3 X0 U1) | (trace "FELL H2"; trace_state; fail_if_success skip))
    | (at_builtin; first | (refine wpList_append_row rfl (.tmp 31) (.tmp 32) rfl E0 z3.heap.size _ 0 _ rfl O3.out _ E.length (cells8 E) rfl U3.out.1 (ones8 _) (by have := HEL.out; unfold maxLen; omega) (by have := HEL.out; omega) HB2.out.size (E.length) (Nat.zero_add _) ?_; intro A3 c3 z3b hown hgr hat hb1; have hb3 := HB2.out.trans hb1; have U4 := Go.Lib.hid (U2.out.keep hb3); have X4 := Go.Lib.hid (X3.out.below hb3); have V4 := Go.Lib.hid (U8s.of_own (l := E) hown HES.out); clear hown hgr hat hb1 hb3 U2 U3 X3 O3 HB2) | (trace "FELL A"; trace_state; fail_if_success skip))
    | (go_at_call 11; first | (refine (CD.out _ _ V4.out).mono ?_; rintro e z4 ⟨A5, m5, c5, rfl, hn, hb⟩; obtain ⟨k1, k2, k3⟩ := two_boxes z4 (.int .u32 oa) (.int .i64 oh) (.int .u32 oi) (.bool fr) (.int .i64 0) (.int .i64 0) (.slice A5 m5 c5); have K := Go.Lib.hid (And.intro ((X4.out.below hb).below k3) (And.intro k1 (And.intro k2 (And.intro ((U4.out.keep hb).keep k3) (hn.keep k3))))); clear k1 k2 k3 hn hb X4 U4 V4) | (trace "FELL D"; trace_state; fail_if_success skip)))
  have hb : Below _ _ _ := (Below.refl ((z4.alloc (.cells #[.int .u32 oa, .int .i64 oh, .int .u32 oi, .bool fr] 24)).alloc (.cells #[.int .i64 0, .int .i64 0, .slice A5 m5 c5] 32)).heap.size ((z4.alloc (.cells #[.int .u32 oa, .int .i64 oh, .int .u32 oi, .bool fr] 24)).alloc (.cells #[.int .i64 0, .int .i64 0, .slice A5 m5 c5] 32))).drew
  replace K := Go.Lib.hid (And.intro (K.out.1.below hb) (And.intro (K.out.2.1.keep hb) (And.intro (K.out.2.2.1.keep hb) (And.intro (K.out.2.2.2.1.keep hb) (K.out.2.2.2.2.keep hb)))))
  clear hb
  obtain ⟨q0, q1, q2, q3⟩ := K.out.1.bo.cells; obtain ⟨p0, p1, p2, p3⟩ := K.out.2.1.cells; obtain ⟨s0, s1, s2⟩ := K.out.2.2.1.cells; have tb := text8 K.out.2.2.2.1
  refine wp_region_noPanic ?_
  refine wp_region_held_drew (S := fun w' => w'.cell? ⟨w.heap.size, 0, none⟩ = some (.int .u32 oa) ∧ w'.cell? ⟨w.heap.size, 1, none⟩ = some (.int .i64 oh) ∧ w'.cell? ⟨w.heap.size, 2, none⟩ = some (.int .u32 oi) ∧ w'.cell? ⟨w.heap.size, 3, none⟩ = some (.bool fr) ∧ w'.cell? ⟨z4.heap.size, 0, none⟩ = some (.int .u32 oa) ∧ w'.cell? ⟨z4.heap.size, 1, none⟩ = some (.int .i64 oh) ∧ w'.cell? ⟨z4.heap.size, 2, none⟩ = some (.int .u32 oi) ∧ w'.cell? ⟨z4.heap.size, 3, none⟩ = some (.bool fr) ∧ w'.cell? ⟨z4.heap.size + 1, 0, none⟩ = some (.int .i64 0) ∧ w'.cell? ⟨z4.heap.size + 1, 1, none⟩ = some (.int .i64 0) ∧ w'.cell? ⟨z4.heap.size + 1, 2, none⟩ = some (.slice A5 m5 c5) ∧ (convert 25 9 (.slice A1 E.length c1)).run Try.prog w' = .ok (.string (txt E)) w') (by kernel_rfl) ⟨q0, q1, q2, q3, p0, p1, p2, p3, s0, s1, s2, tb⟩ (fun hHeld => ?_)
  refine Take.tk 0 37 hHeld ?_
  refine Take.tk 1 38 hHeld ?_
  refine Take.tk 2 39 hHeld ?_
  try simp only [Act.put, List.setIfInBounds_toArray, List.set_cons_zero, List.set_cons_succ]
  refine Take.tk 3 40 hHeld ?_
  refine Take.tk 4 41 hHeld ?_
  refine Take.tk 5 42 hHeld ?_
  try simp only [Act.put, List.setIfInBounds_toArray, List.set_cons_zero, List.set_cons_succ]
  try simp only [Act.put, List.setIfInBounds_toArray, List.set_cons_zero, List.set_cons_succ]
  refine wpAnyH_ready (rs := [6]) (by kernel_rfl) (by simp) ?_
  refine AllReadyH.cons (o := _) (by rfl) (fun K1 hK => ?_) AllReadyH.nil
  go_simp
  go_at_call 12; first | (refine (CF.out _).mono ?_; rintro e z6 ⟨A9, c9, rfl, hu, hb⟩; have U9 := Go.Lib.hid (U8s.of_own hu HES.out); have t9 := text8 U9.out; replace K := Go.Lib.hid (And.intro (K.out.1.below hb) (And.intro (K.out.2.1.keep hb) (And.intro (K.out.2.2.1.keep hb) (And.intro (K.out.2.2.2.1.keep hb) (K.out.2.2.2.2.keep hb))))); clear hb hu; clear q0 q1 q2 q3 p0 p1 p2 p3 s0 s1 s2 tb; obtain ⟨q0, q1, q2, q3⟩ := K.out.1.bo.cells; obtain ⟨p0, p1, p2, p3⟩ := K.out.2.1.cells; obtain ⟨s0, s1, s2⟩ := K.out.2.2.1.cells; have tb := text8 K.out.2.2.2.1) | (trace "FELL E"; trace_state; fail_if_success skip)
  refine hK.out _ _ ⟨q0, q1, q2, q3, p0, p1, p2, p3, s0, s1, s2, tb⟩ (fun hHeld1 => ?_)
  clear hK K1
  try simp only [Act.put, List.setIfInBounds_toArray, List.set_cons_zero, List.set_cons_succ]
  refine wpAnyH_ready (rs := [7]) (by kernel_rfl) (by simp) ?_
  refine AllReadyH.cons (o := _) (by rfl) (fun K1 hK => ?_) AllReadyH.nil
  go_simp
  skip
  refine hK.out _ _ ⟨q0, q1, q2, q3, p0, p1, p2, p3, s0, s1, s2, tb⟩ (fun hHeld2 => ?_)
  clear hK K1
  try simp only [Act.put, List.setIfInBounds_toArray, List.set_cons_zero, List.set_cons_succ]
  refine Take.tk 8 45 hHeld2 ?_
  refine Take.tk 9 46 hHeld2 ?_
  refine Take.tk 10 47 hHeld2 ?_
  try simp only [Act.put, List.setIfInBounds_toArray, List.set_cons_zero, List.set_cons_succ]
  refine Take.tk 11 48 hHeld2 ?_
  refine Take.tk 12 49 hHeld2 ?_
  refine Take.tk 13 50 hHeld2 ?_
  try simp only [Act.put, List.setIfInBounds_toArray, List.set_cons_zero, List.set_cons_succ]
  refine Take.tk 14 51 hHeld2 ?_
  refine Take.tk 15 52 hHeld2 ?_
  refine Take.tk 16 53 hHeld2 ?_
  try simp only [Act.put, List.setIfInBounds_toArray, List.set_cons_zero, List.set_cons_succ]
  refine Take.tk 17 54 hHeld2 ?_
  try simp only [Act.put, List.setIfInBounds_toArray, List.set_cons_zero, List.set_cons_succ]
  refine wpAnyH_ready (rs := [18]) (by kernel_rfl) (by simp) ?_
  refine AllReadyH.cons (o := _) (by rfl) (fun K1 hK => ?_) AllReadyH.nil
  go_simp
  go_at_call 13; first | (refine (CT.out _ _ K.out.2.2.2.2).mono ?_; rintro e z7 ⟨rfl, hb⟩; replace K := Go.Lib.hid (And.intro (K.out.1.below hb) (And.intro (K.out.2.1.keep hb) (And.intro (K.out.2.2.1.keep hb) (And.intro (K.out.2.2.2.1.keep hb) (K.out.2.2.2.2.keep hb))))); clear hb; clear q0 q1 q2 q3 p0 p1 p2 p3 s0 s1 s2 tb; obtain ⟨q0, q1, q2, q3⟩ := K.out.1.bo.cells; obtain ⟨p0, p1, p2, p3⟩ := K.out.2.1.cells; obtain ⟨s0, s1, s2⟩ := K.out.2.2.1.cells; have tb := text8 K.out.2.2.2.1) | (trace "FELL T"; trace_state; fail_if_success skip)
  refine hK.out _ _ ⟨q0, q1, q2, q3, p0, p1, p2, p3, s0, s1, s2, tb⟩ (fun hHeld3 => ?_)
  clear hK K1
  try simp only [Act.put, List.setIfInBounds_toArray, List.set_cons_zero, List.set_cons_succ]
  refine Take.tk 19 56 hHeld3 ?_
  refine Take.tk 20 57 hHeld3 ?_
  try simp only [Act.put, List.setIfInBounds_toArray, List.set_cons_zero, List.set_cons_succ]
  refine wpAnyH_ready (rs := [21]) (by kernel_rfl) (by simp) ?_
  refine AllReadyH.cons (o := _) (by rfl) (fun K1 hK => ?_) AllReadyH.nil
  go_simp
  go_at_call 10; first | (refine (CL.out _).mono ?_; rintro e z8 ⟨rfl, hb⟩; replace K := Go.Lib.hid (And.intro (K.out.1.below hb) (And.intro (K.out.2.1.keep hb) (And.intro (K.out.2.2.1.keep hb) (And.intro (K.out.2.2.2.1.keep hb) (K.out.2.2.2.2.keep hb))))); clear hb; clear q0 q1 q2 q3 p0 p1 p2 p3 s0 s1 s2 tb; obtain ⟨q0, q1, q2, q3⟩ := K.out.1.bo.cells; obtain ⟨p0, p1, p2, p3⟩ := K.out.2.1.cells; obtain ⟨s0, s1, s2⟩ := K.out.2.2.1.cells; have tb := text8 K.out.2.2.2.1) | (trace "FELL L"; trace_state; fail_if_success skip)
  refine hK.out _ _ ⟨q0, q1, q2, q3, p0, p1, p2, p3, s0, s1, s2, tb⟩ (fun hHeld4 => ?_)
  clear hK K1
  try simp only [Act.put, List.setIfInBounds_toArray, List.set_cons_zero, List.set_cons_succ]
  refine Take.tk 22 59 hHeld4 ?_
  refine Take.tk 23 2 hHeld4 ?_
  try simp only [Act.put, List.setIfInBounds_toArray, List.set_cons_zero, List.set_cons_succ]
  refine wpAnyH_done (by kernel_rfl) ?_ _
  refine NoPanic.normal ?_
  go_wp2
  go_ret
  exact ⟨rfl, K.out.1.low⟩
theorem writes_walk (o : Op) (w : World) (ho : o.ok) : Calls Try.prog 3 #[opn o] w (Tells (.bool true) w) := by
  obtain ⟨oa, oh, oi, fr⟩ := o
  by_cases hg : goodO ⟨oa, oh, oi, fr⟩ = true
  · exact writes_good oa oi oh fr w ho hg
  · exact writes_bad oa oi oh fr w ho (by simpa using hg)
end Go.Proofs.Ytkkfnpacejdlnaa.Opn
