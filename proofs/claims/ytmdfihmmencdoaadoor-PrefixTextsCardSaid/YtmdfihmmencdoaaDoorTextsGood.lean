/- PrefixTexts: the law's walks where the prefix is good. -/
import Derived.Test.YtmdfihmmencdoaaDoorPfxLives
import Derived.Test.YtmdfihmmencdoaaDoorRefText
import Derived.Test.YtmdfihmmencdoaaDoorParse
namespace Go.Proofs.YtmdfihmmencdoaaDoor.Pfx
open Go.RowKit Go.Sort

set_option maxHeartbeats 2000000 in
theorem texts_good_prefix (pa : Nat) (k : Nat) (xa xn : Nat) (s S T AT : ByteArray) (w : World)
    (CT : Hid (∀ W, Below w.heap.size w W → Calls Tryd.prog 25 #[.agg #[.int .u32 pa, .int .i64 k]] W fun e w' => e = .returned (.string T) ∧ Below W.heap.size W w'))
    (CP : Hid (∀ W, Below w.heap.size w W → Calls Tryd.prog 24 #[.string T] W fun e w' => e = .returned (.tuple #[.agg #[.int .u32 (pa : Int), .int .i64 k], .int .i64 0]) ∧ Below W.heap.size W w'))
    (CAd : Hid (∀ W, Below w.heap.size w W → Calls Tryd.prog 27 #[.int .u32 pa] W fun e w' => e = .returned (.string AT) ∧ Below W.heap.size W w'))
    (CPA : Hid (∀ W, Below w.heap.size w W → Calls Tryd.prog 26 #[.string AT] W fun e w' => e = .returned (.tuple #[.int .u32 pa, .int .i64 0]) ∧ Below W.heap.size W w'))
    (CRT : Hid (∀ W, Below w.heap.size w W → Calls Tryd.prog 28 #[.agg #[.int .u32 pa, .int .i64 k]] W fun e w' => e = .returned (.string T) ∧ Below W.heap.size W w'))
    (CRA : Hid (∀ W, Below w.heap.size w W → Calls Tryd.prog 29 #[.int .u32 pa] W fun e w' => e = .returned (.string AT) ∧ Below W.heap.size W w'))
    (CRG : Hid (∀ W, Below w.heap.size w W → Calls Tryd.prog 12 #[.agg #[.int .u32 pa, .int .i64 k]] W fun e w' => e = .returned (.bool true) ∧ Below W.heap.size W w'))
    (CP2 : Hid (∀ W, Below w.heap.size w W → Calls Tryd.prog 24 #[.string S] W fun e w' => e = .returned (.tuple #[.agg #[.int .u32 (xa : Int), .int .i64 xn], .int .i64 0]) ∧ Below W.heap.size W w'))
    (CPA2 : Hid (∀ W, Below w.heap.size w W → Calls Tryd.prog 26 #[.string S] W fun e w' => e = .returned (.tuple #[.int .u32 0, .int .i64 2]) ∧ Below W.heap.size W w'))
    (CRT2 : Hid (∀ W, Below w.heap.size w W → Calls Tryd.prog 28 #[.agg #[.int .u32 (xa : Int), .int .i64 xn]] W fun e w' => e = .returned (.string S) ∧ Below W.heap.size W w'))
    (CL : Hid (∀ W, Below w.heap.size w W → Calls Tryd.prog 15 #[] W fun e w' => e = .returned (.bool true) ∧ Below W.heap.size W w'))
    (hSA : Hid (¬ S.toList = AT.toList))
    (hs : Hid ((s.size ≤ 60 ∧ s = S) ∨ (60 < s.size ∧ s.extract 0 60 = S))) :
    Calls Tryd.prog 6 #[.agg #[.int .u32 pa, .int .i64 k], .string s] w fun e w' => e = .returned (.bool true) ∧ Below w.heap.size w w' := by
  have hb := below_new w (.cells #[.int .u32 (pa : Int), .int .i64 k] 24)
  obtain ⟨c0, c1⟩ := cells_two w (.int .u32 (pa : Int)) (.int .i64 k) 24
  go_enter Tryd.func6, Tryd.ntmps6
  go_wp2_with fail
  generalize w.alloc (.cells #[.int .u32 (pa : Int), .int .i64 k] 24) = W at hb c0 c1 ⊢
  go_wp2_with (first | (go_at_call 25; with_reducible refine (CT.out _ hb).mono ?_; rintro e w1 ⟨rfl, hb1⟩; replace c0 := keeps hb1 c0; replace c1 := keeps hb1 c1; replace hb := Below.tr hb hb1; clear hb1) | (go_at_call 24; with_reducible refine (CP.out _ hb).mono ?_; rintro e w1 ⟨rfl, hb1⟩; replace c0 := keeps hb1 c0; replace c1 := keeps hb1 c1; replace hb := Below.tr hb hb1; clear hb1; have hz := block_lt_of_cell c0; have hz2 : ¬ w.heap.size = w1.heap.size := Nat.ne_of_lt hz) | (go_at_call 27; fail))
  obtain ⟨q0, q1⟩ := cells_two w1 (.int .u32 (pa : Int)) (.int .i64 k) 24
  have h0 := below_new w1 (.cells #[.int .u32 (pa : Int), .int .i64 k] 24)
  replace c0 := keeps h0 c0
  replace c1 := keeps h0 c1
  replace hb := Below.tr hb h0
  clear h0
  clear hz hz2
  generalize w1.alloc (.cells #[.int .u32 (pa : Int), .int .i64 k] 24) = W at hb c0 c1 q0 q1 ⊢
  go_wp2_with (first | (go_at_call 27; with_reducible refine (CAd.out _ hb).mono ?_; rintro e w1 ⟨rfl, hb1⟩; replace c0 := keeps hb1 c0; replace c1 := keeps hb1 c1; replace q0 := keeps hb1 q0; replace q1 := keeps hb1 q1; replace hb := Below.tr hb hb1; clear hb1) | (go_at_call 26; with_reducible refine (CPA.out _ hb).mono ?_; rintro e w1 ⟨rfl, hb1⟩; replace c0 := keeps hb1 c0; replace c1 := keeps hb1 c1; replace q0 := keeps hb1 q0; replace q1 := keeps hb1 q1; replace hb := Below.tr hb hb1; clear hb1))
  have k0 := cell_regrown c0
  have k1 := cell_regrown c1
  have d1 := fun d os => Calls.regrown_of (CT.out _ (Below.tr hb (below_regrown w1 d os)))
  have d2 := fun d os => Calls.regrown_of (CRT.out _ (Below.tr hb (below_regrown w1 d os)))
  have d3 := fun d os => Calls.regrown_of (CAd.out _ (Below.tr hb (below_regrown w1 d os)))
  have d4 := fun d os => Calls.regrown_of (CRA.out _ (Below.tr hb (below_regrown w1 d os)))
  refine wp_region_quiet_below (by kernel_rfl) (by kernel_rfl) ?_
  repeat (first | go_big_quiet_step (first | with_reducible exact d1 _ _ | with_reducible exact d2 _ _ | with_reducible exact d3 _ _ | with_reducible exact d4 _ _) | quiet_step (first | with_reducible exact d1 _ _ | with_reducible exact d2 _ _ | with_reducible exact d3 _ _ | with_reducible exact d4 _ _))
  refine wpQuiet_nil ?_
  intro _ hw'
  obtain ⟨⟨dq, osq⟩, hw''⟩ := hw'
  subst hw''
  clear d1 d2 d3 d4 k0 k1
  have hr := below_regrown w1 dq osq
  replace c0 := keeps hr c0
  replace c1 := keeps hr c1
  replace q0 := keeps hr q0
  replace q1 := keeps hr q1
  replace hb := Below.tr hb hr
  clear hr
  generalize grow (redrawn w1 dq) osq = W at hb c0 c1 q0 q1 ⊢
  rcases hs.out with ⟨hs1, hs2⟩ | ⟨hs1, hs2⟩
  · have hs3 : ¬ (60 : Int) < (s.size : Int) := by omega
    subst hs2
    clear hs1
    go_wp2_with (first | (go_at_call 12; with_reducible refine (CRG.out _ hb).mono ?_; rintro e w1 ⟨rfl, hb1⟩; replace c0 := keeps hb1 c0; replace c1 := keeps hb1 c1; replace q0 := keeps hb1 q0; replace q1 := keeps hb1 q1; replace hb := Below.tr hb hb1; clear hb1) | (go_at_call 24; with_reducible refine (CP2.out _ hb).mono ?_; rintro e w1 ⟨rfl, hb1⟩; replace c0 := keeps hb1 c0; replace c1 := keeps hb1 c1; replace hb := Below.tr hb hb1; clear hb1; have hz := block_lt_of_cell c0; have hz2 : ¬ w.heap.size = w1.heap.size := Nat.ne_of_lt hz) | (go_at_call 26; fail))
    obtain ⟨x0, x1⟩ := cells_two w1 (.int .u32 (xa : Int)) (.int .i64 xn) 24
    have h0 := below_new w1 (.cells #[.int .u32 (xa : Int), .int .i64 xn] 24)
    replace c0 := keeps h0 c0
    replace c1 := keeps h0 c1
    replace hb := Below.tr hb h0
    clear h0
    clear hz hz2
    generalize w1.alloc (.cells #[.int .u32 (xa : Int), .int .i64 xn] 24) = W at hb c0 c1 x0 x1 ⊢
    have hSA1 : (s.toList == AT.toList) = false := beq_eq_false_iff_ne.2 hSA.out
    have hSA2 : (AT.toList == s.toList) = false := beq_eq_false_iff_ne.2 fun e => hSA.out e.symm
    go_wp2_with (first | (go_at_call 26; with_reducible refine (CPA2.out _ hb).mono ?_; rintro e w1 ⟨rfl, hb1⟩; replace c0 := keeps hb1 c0; replace c1 := keeps hb1 c1; replace x0 := keeps hb1 x0; replace x1 := keeps hb1 x1; replace hb := Below.tr hb hb1; clear hb1) | (go_at_call 28; (first | with_reducible refine (CRT2.out _ hb).mono ?_ | with_reducible refine (CRT.out _ hb).mono ?_); rintro e w1 ⟨rfl, hb1⟩; replace c0 := keeps hb1 c0; replace c1 := keeps hb1 c1; replace x0 := keeps hb1 x0; replace x1 := keeps hb1 x1; replace hb := Below.tr hb hb1; clear hb1) | (go_at_call 12; with_reducible refine (CRG.out _ hb).mono ?_; rintro e w1 ⟨rfl, hb1⟩; replace c0 := keeps hb1 c0; replace c1 := keeps hb1 c1; replace x0 := keeps hb1 x0; replace x1 := keeps hb1 x1; replace hb := Below.tr hb hb1; clear hb1) | (go_at_call 29; with_reducible refine (CRA.out _ hb).mono ?_; rintro e w1 ⟨rfl, hb1⟩; replace c0 := keeps hb1 c0; replace c1 := keeps hb1 c1; replace x0 := keeps hb1 x0; replace x1 := keeps hb1 x1; replace hb := Below.tr hb hb1; clear hb1) | (go_at_call 15; with_reducible refine (CL.out _ hb).mono ?_; rintro e w1 ⟨rfl, hb1⟩; replace c0 := keeps hb1 c0; replace c1 := keeps hb1 c1; replace x0 := keeps hb1 x0; replace x1 := keeps hb1 x1; replace hb := Below.tr hb hb1; clear hb1))
    go_ret
    exact ⟨rfl, hb⟩
  · have hs3 : (60 : Int) < (s.size : Int) := by omega
    clear hs1
    go_wp2_with (first | (go_at_call 12; with_reducible refine (CRG.out _ hb).mono ?_; rintro e w1 ⟨rfl, hb1⟩; replace c0 := keeps hb1 c0; replace c1 := keeps hb1 c1; replace q0 := keeps hb1 q0; replace q1 := keeps hb1 q1; replace hb := Below.tr hb hb1; clear hb1) | (go_at_call 24; with_reducible refine (CP2.out _ hb).mono ?_; rintro e w1 ⟨rfl, hb1⟩; replace c0 := keeps hb1 c0; replace c1 := keeps hb1 c1; replace hb := Below.tr hb hb1; clear hb1; have hz := block_lt_of_cell c0; have hz2 : ¬ w.heap.size = w1.heap.size := Nat.ne_of_lt hz) | (go_at_call 26; fail))
    obtain ⟨x0, x1⟩ := cells_two w1 (.int .u32 (xa : Int)) (.int .i64 xn) 24
    have h0 := below_new w1 (.cells #[.int .u32 (xa : Int), .int .i64 xn] 24)
    replace c0 := keeps h0 c0
    replace c1 := keeps h0 c1
    replace hb := Below.tr hb h0
    clear h0
    clear hz hz2
    generalize w1.alloc (.cells #[.int .u32 (xa : Int), .int .i64 xn] 24) = W at hb c0 c1 x0 x1 ⊢
    have hSA1 : (S.toList == AT.toList) = false := beq_eq_false_iff_ne.2 hSA.out
    have hSA2 : (AT.toList == S.toList) = false := beq_eq_false_iff_ne.2 fun e => hSA.out e.symm
    go_wp2_with (first | (go_at_call 26; with_reducible refine (CPA2.out _ hb).mono ?_; rintro e w1 ⟨rfl, hb1⟩; replace c0 := keeps hb1 c0; replace c1 := keeps hb1 c1; replace x0 := keeps hb1 x0; replace x1 := keeps hb1 x1; replace hb := Below.tr hb hb1; clear hb1) | (go_at_call 28; (first | with_reducible refine (CRT2.out _ hb).mono ?_ | with_reducible refine (CRT.out _ hb).mono ?_); rintro e w1 ⟨rfl, hb1⟩; replace c0 := keeps hb1 c0; replace c1 := keeps hb1 c1; replace x0 := keeps hb1 x0; replace x1 := keeps hb1 x1; replace hb := Below.tr hb hb1; clear hb1) | (go_at_call 12; with_reducible refine (CRG.out _ hb).mono ?_; rintro e w1 ⟨rfl, hb1⟩; replace c0 := keeps hb1 c0; replace c1 := keeps hb1 c1; replace x0 := keeps hb1 x0; replace x1 := keeps hb1 x1; replace hb := Below.tr hb hb1; clear hb1) | (go_at_call 29; with_reducible refine (CRA.out _ hb).mono ?_; rintro e w1 ⟨rfl, hb1⟩; replace c0 := keeps hb1 c0; replace c1 := keeps hb1 c1; replace x0 := keeps hb1 x0; replace x1 := keeps hb1 x1; replace hb := Below.tr hb hb1; clear hb1) | (go_at_call 15; with_reducible refine (CL.out _ hb).mono ?_; rintro e w1 ⟨rfl, hb1⟩; replace c0 := keeps hb1 c0; replace c1 := keeps hb1 c1; replace x0 := keeps hb1 x0; replace x1 := keeps hb1 x1; replace hb := Below.tr hb hb1; clear hb1))
    go_ret
    exact ⟨rfl, hb⟩

set_option maxHeartbeats 2000000 in
theorem texts_good_addr (pa : Nat) (k : Nat) (b : Nat) (s S T AT : ByteArray) (w : World)
    (CT : Hid (∀ W, Below w.heap.size w W → Calls Tryd.prog 25 #[.agg #[.int .u32 pa, .int .i64 k]] W fun e w' => e = .returned (.string T) ∧ Below W.heap.size W w'))
    (CP : Hid (∀ W, Below w.heap.size w W → Calls Tryd.prog 24 #[.string T] W fun e w' => e = .returned (.tuple #[.agg #[.int .u32 (pa : Int), .int .i64 k], .int .i64 0]) ∧ Below W.heap.size W w'))
    (CAd : Hid (∀ W, Below w.heap.size w W → Calls Tryd.prog 27 #[.int .u32 pa] W fun e w' => e = .returned (.string AT) ∧ Below W.heap.size W w'))
    (CPA : Hid (∀ W, Below w.heap.size w W → Calls Tryd.prog 26 #[.string AT] W fun e w' => e = .returned (.tuple #[.int .u32 pa, .int .i64 0]) ∧ Below W.heap.size W w'))
    (CRT : Hid (∀ W, Below w.heap.size w W → Calls Tryd.prog 28 #[.agg #[.int .u32 pa, .int .i64 k]] W fun e w' => e = .returned (.string T) ∧ Below W.heap.size W w'))
    (CRA : Hid (∀ W, Below w.heap.size w W → Calls Tryd.prog 29 #[.int .u32 pa] W fun e w' => e = .returned (.string AT) ∧ Below W.heap.size W w'))
    (CRG : Hid (∀ W, Below w.heap.size w W → Calls Tryd.prog 12 #[.agg #[.int .u32 pa, .int .i64 k]] W fun e w' => e = .returned (.bool true) ∧ Below W.heap.size W w'))
    (CP2 : Hid (∀ W, Below w.heap.size w W → Calls Tryd.prog 24 #[.string S] W fun e w' => e = .returned (.tuple #[.agg #[.int .u32 0, .int .i64 0], .int .i64 2]) ∧ Below W.heap.size W w'))
    (CPA2 : Hid (∀ W, Below w.heap.size w W → Calls Tryd.prog 26 #[.string S] W fun e w' => e = .returned (.tuple #[.int .u32 (b : Int), .int .i64 0]) ∧ Below W.heap.size W w'))
    (CRA2 : Hid (∀ W, Below w.heap.size w W → Calls Tryd.prog 29 #[.int .u32 b] W fun e w' => e = .returned (.string S) ∧ Below W.heap.size W w'))
    (CL : Hid (∀ W, Below w.heap.size w W → Calls Tryd.prog 15 #[] W fun e w' => e = .returned (.bool true) ∧ Below W.heap.size W w'))
    (hST : Hid (¬ S.toList = T.toList))
    (hs : Hid ((s.size ≤ 60 ∧ s = S) ∨ (60 < s.size ∧ s.extract 0 60 = S))) :
    Calls Tryd.prog 6 #[.agg #[.int .u32 pa, .int .i64 k], .string s] w fun e w' => e = .returned (.bool true) ∧ Below w.heap.size w w' := by
  have hb := below_new w (.cells #[.int .u32 (pa : Int), .int .i64 k] 24)
  obtain ⟨c0, c1⟩ := cells_two w (.int .u32 (pa : Int)) (.int .i64 k) 24
  go_enter Tryd.func6, Tryd.ntmps6
  go_wp2_with fail
  generalize w.alloc (.cells #[.int .u32 (pa : Int), .int .i64 k] 24) = W at hb c0 c1 ⊢
  go_wp2_with (first | (go_at_call 25; with_reducible refine (CT.out _ hb).mono ?_; rintro e w1 ⟨rfl, hb1⟩; replace c0 := keeps hb1 c0; replace c1 := keeps hb1 c1; replace hb := Below.tr hb hb1; clear hb1) | (go_at_call 24; with_reducible refine (CP.out _ hb).mono ?_; rintro e w1 ⟨rfl, hb1⟩; replace c0 := keeps hb1 c0; replace c1 := keeps hb1 c1; replace hb := Below.tr hb hb1; clear hb1; have hz := block_lt_of_cell c0; have hz2 : ¬ w.heap.size = w1.heap.size := Nat.ne_of_lt hz) | (go_at_call 27; fail))
  obtain ⟨q0, q1⟩ := cells_two w1 (.int .u32 (pa : Int)) (.int .i64 k) 24
  have h0 := below_new w1 (.cells #[.int .u32 (pa : Int), .int .i64 k] 24)
  replace c0 := keeps h0 c0
  replace c1 := keeps h0 c1
  replace hb := Below.tr hb h0
  clear h0
  clear hz hz2
  generalize w1.alloc (.cells #[.int .u32 (pa : Int), .int .i64 k] 24) = W at hb c0 c1 q0 q1 ⊢
  go_wp2_with (first | (go_at_call 27; with_reducible refine (CAd.out _ hb).mono ?_; rintro e w1 ⟨rfl, hb1⟩; replace c0 := keeps hb1 c0; replace c1 := keeps hb1 c1; replace q0 := keeps hb1 q0; replace q1 := keeps hb1 q1; replace hb := Below.tr hb hb1; clear hb1) | (go_at_call 26; with_reducible refine (CPA.out _ hb).mono ?_; rintro e w1 ⟨rfl, hb1⟩; replace c0 := keeps hb1 c0; replace c1 := keeps hb1 c1; replace q0 := keeps hb1 q0; replace q1 := keeps hb1 q1; replace hb := Below.tr hb hb1; clear hb1))
  have k0 := cell_regrown c0
  have k1 := cell_regrown c1
  have d1 := fun d os => Calls.regrown_of (CT.out _ (Below.tr hb (below_regrown w1 d os)))
  have d2 := fun d os => Calls.regrown_of (CRT.out _ (Below.tr hb (below_regrown w1 d os)))
  have d3 := fun d os => Calls.regrown_of (CAd.out _ (Below.tr hb (below_regrown w1 d os)))
  have d4 := fun d os => Calls.regrown_of (CRA.out _ (Below.tr hb (below_regrown w1 d os)))
  refine wp_region_quiet_below (by kernel_rfl) (by kernel_rfl) ?_
  repeat (first | go_big_quiet_step (first | with_reducible exact d1 _ _ | with_reducible exact d2 _ _ | with_reducible exact d3 _ _ | with_reducible exact d4 _ _) | quiet_step (first | with_reducible exact d1 _ _ | with_reducible exact d2 _ _ | with_reducible exact d3 _ _ | with_reducible exact d4 _ _))
  refine wpQuiet_nil ?_
  intro _ hw'
  obtain ⟨⟨dq, osq⟩, hw''⟩ := hw'
  subst hw''
  clear d1 d2 d3 d4 k0 k1
  have hr := below_regrown w1 dq osq
  replace c0 := keeps hr c0
  replace c1 := keeps hr c1
  replace q0 := keeps hr q0
  replace q1 := keeps hr q1
  replace hb := Below.tr hb hr
  clear hr
  generalize grow (redrawn w1 dq) osq = W at hb c0 c1 q0 q1 ⊢
  rcases hs.out with ⟨hs1, hs2⟩ | ⟨hs1, hs2⟩
  · have hs3 : ¬ (60 : Int) < (s.size : Int) := by omega
    subst hs2
    clear hs1
    go_wp2_with (first | (go_at_call 12; with_reducible refine (CRG.out _ hb).mono ?_; rintro e w1 ⟨rfl, hb1⟩; replace c0 := keeps hb1 c0; replace c1 := keeps hb1 c1; replace q0 := keeps hb1 q0; replace q1 := keeps hb1 q1; replace hb := Below.tr hb hb1; clear hb1) | (go_at_call 24; with_reducible refine (CP2.out _ hb).mono ?_; rintro e w1 ⟨rfl, hb1⟩; replace c0 := keeps hb1 c0; replace c1 := keeps hb1 c1; replace hb := Below.tr hb hb1; clear hb1; have hz := block_lt_of_cell c0; have hz2 : ¬ w.heap.size = w1.heap.size := Nat.ne_of_lt hz) | (go_at_call 26; fail))
    obtain ⟨x0, x1⟩ := cells_two w1 (.int .u32 0) (.int .i64 0) 24
    have h0 := below_new w1 (.cells #[.int .u32 0, .int .i64 0] 24)
    replace c0 := keeps h0 c0
    replace c1 := keeps h0 c1
    replace hb := Below.tr hb h0
    clear h0
    clear hz hz2
    generalize w1.alloc (.cells #[.int .u32 0, .int .i64 0] 24) = W at hb c0 c1 x0 x1 ⊢
    have hST1 : (s.toList == T.toList) = false := beq_eq_false_iff_ne.2 hST.out
    have hST2 : (T.toList == s.toList) = false := beq_eq_false_iff_ne.2 fun e => hST.out e.symm
    go_wp2_with (first | (go_at_call 26; with_reducible refine (CPA2.out _ hb).mono ?_; rintro e w1 ⟨rfl, hb1⟩; replace c0 := keeps hb1 c0; replace c1 := keeps hb1 c1; replace x0 := keeps hb1 x0; replace x1 := keeps hb1 x1; replace hb := Below.tr hb hb1; clear hb1) | (go_at_call 28; with_reducible refine (CRT.out _ hb).mono ?_; rintro e w1 ⟨rfl, hb1⟩; replace c0 := keeps hb1 c0; replace c1 := keeps hb1 c1; replace x0 := keeps hb1 x0; replace x1 := keeps hb1 x1; replace hb := Below.tr hb hb1; clear hb1) | (go_at_call 12; with_reducible refine (CRG.out _ hb).mono ?_; rintro e w1 ⟨rfl, hb1⟩; replace c0 := keeps hb1 c0; replace c1 := keeps hb1 c1; replace x0 := keeps hb1 x0; replace x1 := keeps hb1 x1; replace hb := Below.tr hb hb1; clear hb1) | (go_at_call 29; (first | with_reducible refine (CRA2.out _ hb).mono ?_ | with_reducible refine (CRA.out _ hb).mono ?_); rintro e w1 ⟨rfl, hb1⟩; replace c0 := keeps hb1 c0; replace c1 := keeps hb1 c1; replace x0 := keeps hb1 x0; replace x1 := keeps hb1 x1; replace hb := Below.tr hb hb1; clear hb1) | (go_at_call 15; with_reducible refine (CL.out _ hb).mono ?_; rintro e w1 ⟨rfl, hb1⟩; replace c0 := keeps hb1 c0; replace c1 := keeps hb1 c1; replace x0 := keeps hb1 x0; replace x1 := keeps hb1 x1; replace hb := Below.tr hb hb1; clear hb1))
    go_ret
    exact ⟨rfl, hb⟩
  · have hs3 : (60 : Int) < (s.size : Int) := by omega
    clear hs1
    go_wp2_with (first | (go_at_call 12; with_reducible refine (CRG.out _ hb).mono ?_; rintro e w1 ⟨rfl, hb1⟩; replace c0 := keeps hb1 c0; replace c1 := keeps hb1 c1; replace q0 := keeps hb1 q0; replace q1 := keeps hb1 q1; replace hb := Below.tr hb hb1; clear hb1) | (go_at_call 24; with_reducible refine (CP2.out _ hb).mono ?_; rintro e w1 ⟨rfl, hb1⟩; replace c0 := keeps hb1 c0; replace c1 := keeps hb1 c1; replace hb := Below.tr hb hb1; clear hb1; have hz := block_lt_of_cell c0; have hz2 : ¬ w.heap.size = w1.heap.size := Nat.ne_of_lt hz) | (go_at_call 26; fail))
    obtain ⟨x0, x1⟩ := cells_two w1 (.int .u32 0) (.int .i64 0) 24
    have h0 := below_new w1 (.cells #[.int .u32 0, .int .i64 0] 24)
    replace c0 := keeps h0 c0
    replace c1 := keeps h0 c1
    replace hb := Below.tr hb h0
    clear h0
    clear hz hz2
    generalize w1.alloc (.cells #[.int .u32 0, .int .i64 0] 24) = W at hb c0 c1 x0 x1 ⊢
    have hST1 : (S.toList == T.toList) = false := beq_eq_false_iff_ne.2 hST.out
    have hST2 : (T.toList == S.toList) = false := beq_eq_false_iff_ne.2 fun e => hST.out e.symm
    go_wp2_with (first | (go_at_call 26; with_reducible refine (CPA2.out _ hb).mono ?_; rintro e w1 ⟨rfl, hb1⟩; replace c0 := keeps hb1 c0; replace c1 := keeps hb1 c1; replace x0 := keeps hb1 x0; replace x1 := keeps hb1 x1; replace hb := Below.tr hb hb1; clear hb1) | (go_at_call 28; with_reducible refine (CRT.out _ hb).mono ?_; rintro e w1 ⟨rfl, hb1⟩; replace c0 := keeps hb1 c0; replace c1 := keeps hb1 c1; replace x0 := keeps hb1 x0; replace x1 := keeps hb1 x1; replace hb := Below.tr hb hb1; clear hb1) | (go_at_call 12; with_reducible refine (CRG.out _ hb).mono ?_; rintro e w1 ⟨rfl, hb1⟩; replace c0 := keeps hb1 c0; replace c1 := keeps hb1 c1; replace x0 := keeps hb1 x0; replace x1 := keeps hb1 x1; replace hb := Below.tr hb hb1; clear hb1) | (go_at_call 29; (first | with_reducible refine (CRA2.out _ hb).mono ?_ | with_reducible refine (CRA.out _ hb).mono ?_); rintro e w1 ⟨rfl, hb1⟩; replace c0 := keeps hb1 c0; replace c1 := keeps hb1 c1; replace x0 := keeps hb1 x0; replace x1 := keeps hb1 x1; replace hb := Below.tr hb hb1; clear hb1) | (go_at_call 15; with_reducible refine (CL.out _ hb).mono ?_; rintro e w1 ⟨rfl, hb1⟩; replace c0 := keeps hb1 c0; replace c1 := keeps hb1 c1; replace x0 := keeps hb1 x0; replace x1 := keeps hb1 x1; replace hb := Below.tr hb hb1; clear hb1))
    go_ret
    exact ⟨rfl, hb⟩

set_option maxHeartbeats 2000000 in
theorem texts_good_none (pa : Nat) (k : Nat) (s S T AT : ByteArray) (w : World)
    (CT : Hid (∀ W, Below w.heap.size w W → Calls Tryd.prog 25 #[.agg #[.int .u32 pa, .int .i64 k]] W fun e w' => e = .returned (.string T) ∧ Below W.heap.size W w'))
    (CP : Hid (∀ W, Below w.heap.size w W → Calls Tryd.prog 24 #[.string T] W fun e w' => e = .returned (.tuple #[.agg #[.int .u32 (pa : Int), .int .i64 k], .int .i64 0]) ∧ Below W.heap.size W w'))
    (CAd : Hid (∀ W, Below w.heap.size w W → Calls Tryd.prog 27 #[.int .u32 pa] W fun e w' => e = .returned (.string AT) ∧ Below W.heap.size W w'))
    (CPA : Hid (∀ W, Below w.heap.size w W → Calls Tryd.prog 26 #[.string AT] W fun e w' => e = .returned (.tuple #[.int .u32 pa, .int .i64 0]) ∧ Below W.heap.size W w'))
    (CRT : Hid (∀ W, Below w.heap.size w W → Calls Tryd.prog 28 #[.agg #[.int .u32 pa, .int .i64 k]] W fun e w' => e = .returned (.string T) ∧ Below W.heap.size W w'))
    (CRA : Hid (∀ W, Below w.heap.size w W → Calls Tryd.prog 29 #[.int .u32 pa] W fun e w' => e = .returned (.string AT) ∧ Below W.heap.size W w'))
    (CRG : Hid (∀ W, Below w.heap.size w W → Calls Tryd.prog 12 #[.agg #[.int .u32 pa, .int .i64 k]] W fun e w' => e = .returned (.bool true) ∧ Below W.heap.size W w'))
    (CP2 : Hid (∀ W, Below w.heap.size w W → Calls Tryd.prog 24 #[.string S] W fun e w' => e = .returned (.tuple #[.agg #[.int .u32 0, .int .i64 0], .int .i64 2]) ∧ Below W.heap.size W w'))
    (CPA2 : Hid (∀ W, Below w.heap.size w W → Calls Tryd.prog 26 #[.string S] W fun e w' => e = .returned (.tuple #[.int .u32 0, .int .i64 2]) ∧ Below W.heap.size W w'))
    (CL : Hid (∀ W, Below w.heap.size w W → Calls Tryd.prog 15 #[] W fun e w' => e = .returned (.bool true) ∧ Below W.heap.size W w'))
    (hST : Hid (¬ S.toList = T.toList))
    (hSA : Hid (¬ S.toList = AT.toList))
    (hs : Hid ((s.size ≤ 60 ∧ s = S) ∨ (60 < s.size ∧ s.extract 0 60 = S))) :
    Calls Tryd.prog 6 #[.agg #[.int .u32 pa, .int .i64 k], .string s] w fun e w' => e = .returned (.bool true) ∧ Below w.heap.size w w' := by
  have hb := below_new w (.cells #[.int .u32 (pa : Int), .int .i64 k] 24)
  obtain ⟨c0, c1⟩ := cells_two w (.int .u32 (pa : Int)) (.int .i64 k) 24
  go_enter Tryd.func6, Tryd.ntmps6
  go_wp2_with fail
  generalize w.alloc (.cells #[.int .u32 (pa : Int), .int .i64 k] 24) = W at hb c0 c1 ⊢
  go_wp2_with (first | (go_at_call 25; with_reducible refine (CT.out _ hb).mono ?_; rintro e w1 ⟨rfl, hb1⟩; replace c0 := keeps hb1 c0; replace c1 := keeps hb1 c1; replace hb := Below.tr hb hb1; clear hb1) | (go_at_call 24; with_reducible refine (CP.out _ hb).mono ?_; rintro e w1 ⟨rfl, hb1⟩; replace c0 := keeps hb1 c0; replace c1 := keeps hb1 c1; replace hb := Below.tr hb hb1; clear hb1; have hz := block_lt_of_cell c0; have hz2 : ¬ w.heap.size = w1.heap.size := Nat.ne_of_lt hz) | (go_at_call 27; fail))
  obtain ⟨q0, q1⟩ := cells_two w1 (.int .u32 (pa : Int)) (.int .i64 k) 24
  have h0 := below_new w1 (.cells #[.int .u32 (pa : Int), .int .i64 k] 24)
  replace c0 := keeps h0 c0
  replace c1 := keeps h0 c1
  replace hb := Below.tr hb h0
  clear h0
  clear hz hz2
  generalize w1.alloc (.cells #[.int .u32 (pa : Int), .int .i64 k] 24) = W at hb c0 c1 q0 q1 ⊢
  go_wp2_with (first | (go_at_call 27; with_reducible refine (CAd.out _ hb).mono ?_; rintro e w1 ⟨rfl, hb1⟩; replace c0 := keeps hb1 c0; replace c1 := keeps hb1 c1; replace q0 := keeps hb1 q0; replace q1 := keeps hb1 q1; replace hb := Below.tr hb hb1; clear hb1) | (go_at_call 26; with_reducible refine (CPA.out _ hb).mono ?_; rintro e w1 ⟨rfl, hb1⟩; replace c0 := keeps hb1 c0; replace c1 := keeps hb1 c1; replace q0 := keeps hb1 q0; replace q1 := keeps hb1 q1; replace hb := Below.tr hb hb1; clear hb1))
  have k0 := cell_regrown c0
  have k1 := cell_regrown c1
  have d1 := fun d os => Calls.regrown_of (CT.out _ (Below.tr hb (below_regrown w1 d os)))
  have d2 := fun d os => Calls.regrown_of (CRT.out _ (Below.tr hb (below_regrown w1 d os)))
  have d3 := fun d os => Calls.regrown_of (CAd.out _ (Below.tr hb (below_regrown w1 d os)))
  have d4 := fun d os => Calls.regrown_of (CRA.out _ (Below.tr hb (below_regrown w1 d os)))
  refine wp_region_quiet_below (by kernel_rfl) (by kernel_rfl) ?_
  repeat (first | go_big_quiet_step (first | with_reducible exact d1 _ _ | with_reducible exact d2 _ _ | with_reducible exact d3 _ _ | with_reducible exact d4 _ _) | quiet_step (first | with_reducible exact d1 _ _ | with_reducible exact d2 _ _ | with_reducible exact d3 _ _ | with_reducible exact d4 _ _))
  refine wpQuiet_nil ?_
  intro _ hw'
  obtain ⟨⟨dq, osq⟩, hw''⟩ := hw'
  subst hw''
  clear d1 d2 d3 d4 k0 k1
  have hr := below_regrown w1 dq osq
  replace c0 := keeps hr c0
  replace c1 := keeps hr c1
  replace q0 := keeps hr q0
  replace q1 := keeps hr q1
  replace hb := Below.tr hb hr
  clear hr
  generalize grow (redrawn w1 dq) osq = W at hb c0 c1 q0 q1 ⊢
  rcases hs.out with ⟨hs1, hs2⟩ | ⟨hs1, hs2⟩
  · have hs3 : ¬ (60 : Int) < (s.size : Int) := by omega
    subst hs2
    clear hs1
    go_wp2_with (first | (go_at_call 12; with_reducible refine (CRG.out _ hb).mono ?_; rintro e w1 ⟨rfl, hb1⟩; replace c0 := keeps hb1 c0; replace c1 := keeps hb1 c1; replace q0 := keeps hb1 q0; replace q1 := keeps hb1 q1; replace hb := Below.tr hb hb1; clear hb1) | (go_at_call 24; with_reducible refine (CP2.out _ hb).mono ?_; rintro e w1 ⟨rfl, hb1⟩; replace c0 := keeps hb1 c0; replace c1 := keeps hb1 c1; replace hb := Below.tr hb hb1; clear hb1; have hz := block_lt_of_cell c0; have hz2 : ¬ w.heap.size = w1.heap.size := Nat.ne_of_lt hz) | (go_at_call 26; fail))
    obtain ⟨x0, x1⟩ := cells_two w1 (.int .u32 0) (.int .i64 0) 24
    have h0 := below_new w1 (.cells #[.int .u32 0, .int .i64 0] 24)
    replace c0 := keeps h0 c0
    replace c1 := keeps h0 c1
    replace hb := Below.tr hb h0
    clear h0
    clear hz hz2
    generalize w1.alloc (.cells #[.int .u32 0, .int .i64 0] 24) = W at hb c0 c1 x0 x1 ⊢
    have hST1 : (s.toList == T.toList) = false := beq_eq_false_iff_ne.2 hST.out
    have hST2 : (T.toList == s.toList) = false := beq_eq_false_iff_ne.2 fun e => hST.out e.symm
    have hSA1 : (s.toList == AT.toList) = false := beq_eq_false_iff_ne.2 hSA.out
    have hSA2 : (AT.toList == s.toList) = false := beq_eq_false_iff_ne.2 fun e => hSA.out e.symm
    go_wp2_with (first | (go_at_call 26; with_reducible refine (CPA2.out _ hb).mono ?_; rintro e w1 ⟨rfl, hb1⟩; replace c0 := keeps hb1 c0; replace c1 := keeps hb1 c1; replace x0 := keeps hb1 x0; replace x1 := keeps hb1 x1; replace hb := Below.tr hb hb1; clear hb1) | (go_at_call 28; with_reducible refine (CRT.out _ hb).mono ?_; rintro e w1 ⟨rfl, hb1⟩; replace c0 := keeps hb1 c0; replace c1 := keeps hb1 c1; replace x0 := keeps hb1 x0; replace x1 := keeps hb1 x1; replace hb := Below.tr hb hb1; clear hb1) | (go_at_call 12; with_reducible refine (CRG.out _ hb).mono ?_; rintro e w1 ⟨rfl, hb1⟩; replace c0 := keeps hb1 c0; replace c1 := keeps hb1 c1; replace x0 := keeps hb1 x0; replace x1 := keeps hb1 x1; replace hb := Below.tr hb hb1; clear hb1) | (go_at_call 29; with_reducible refine (CRA.out _ hb).mono ?_; rintro e w1 ⟨rfl, hb1⟩; replace c0 := keeps hb1 c0; replace c1 := keeps hb1 c1; replace x0 := keeps hb1 x0; replace x1 := keeps hb1 x1; replace hb := Below.tr hb hb1; clear hb1) | (go_at_call 15; with_reducible refine (CL.out _ hb).mono ?_; rintro e w1 ⟨rfl, hb1⟩; replace c0 := keeps hb1 c0; replace c1 := keeps hb1 c1; replace x0 := keeps hb1 x0; replace x1 := keeps hb1 x1; replace hb := Below.tr hb hb1; clear hb1))
    go_ret
    exact ⟨rfl, hb⟩
  · have hs3 : (60 : Int) < (s.size : Int) := by omega
    clear hs1
    go_wp2_with (first | (go_at_call 12; with_reducible refine (CRG.out _ hb).mono ?_; rintro e w1 ⟨rfl, hb1⟩; replace c0 := keeps hb1 c0; replace c1 := keeps hb1 c1; replace q0 := keeps hb1 q0; replace q1 := keeps hb1 q1; replace hb := Below.tr hb hb1; clear hb1) | (go_at_call 24; with_reducible refine (CP2.out _ hb).mono ?_; rintro e w1 ⟨rfl, hb1⟩; replace c0 := keeps hb1 c0; replace c1 := keeps hb1 c1; replace hb := Below.tr hb hb1; clear hb1; have hz := block_lt_of_cell c0; have hz2 : ¬ w.heap.size = w1.heap.size := Nat.ne_of_lt hz) | (go_at_call 26; fail))
    obtain ⟨x0, x1⟩ := cells_two w1 (.int .u32 0) (.int .i64 0) 24
    have h0 := below_new w1 (.cells #[.int .u32 0, .int .i64 0] 24)
    replace c0 := keeps h0 c0
    replace c1 := keeps h0 c1
    replace hb := Below.tr hb h0
    clear h0
    clear hz hz2
    generalize w1.alloc (.cells #[.int .u32 0, .int .i64 0] 24) = W at hb c0 c1 x0 x1 ⊢
    have hST1 : (S.toList == T.toList) = false := beq_eq_false_iff_ne.2 hST.out
    have hST2 : (T.toList == S.toList) = false := beq_eq_false_iff_ne.2 fun e => hST.out e.symm
    have hSA1 : (S.toList == AT.toList) = false := beq_eq_false_iff_ne.2 hSA.out
    have hSA2 : (AT.toList == S.toList) = false := beq_eq_false_iff_ne.2 fun e => hSA.out e.symm
    go_wp2_with (first | (go_at_call 26; with_reducible refine (CPA2.out _ hb).mono ?_; rintro e w1 ⟨rfl, hb1⟩; replace c0 := keeps hb1 c0; replace c1 := keeps hb1 c1; replace x0 := keeps hb1 x0; replace x1 := keeps hb1 x1; replace hb := Below.tr hb hb1; clear hb1) | (go_at_call 28; with_reducible refine (CRT.out _ hb).mono ?_; rintro e w1 ⟨rfl, hb1⟩; replace c0 := keeps hb1 c0; replace c1 := keeps hb1 c1; replace x0 := keeps hb1 x0; replace x1 := keeps hb1 x1; replace hb := Below.tr hb hb1; clear hb1) | (go_at_call 12; with_reducible refine (CRG.out _ hb).mono ?_; rintro e w1 ⟨rfl, hb1⟩; replace c0 := keeps hb1 c0; replace c1 := keeps hb1 c1; replace x0 := keeps hb1 x0; replace x1 := keeps hb1 x1; replace hb := Below.tr hb hb1; clear hb1) | (go_at_call 29; with_reducible refine (CRA.out _ hb).mono ?_; rintro e w1 ⟨rfl, hb1⟩; replace c0 := keeps hb1 c0; replace c1 := keeps hb1 c1; replace x0 := keeps hb1 x0; replace x1 := keeps hb1 x1; replace hb := Below.tr hb hb1; clear hb1) | (go_at_call 15; with_reducible refine (CL.out _ hb).mono ?_; rintro e w1 ⟨rfl, hb1⟩; replace c0 := keeps hb1 c0; replace c1 := keeps hb1 c1; replace x0 := keeps hb1 x0; replace x1 := keeps hb1 x1; replace hb := Below.tr hb hb1; clear hb1))
    go_ret
    exact ⟨rfl, hb⟩

end Go.Proofs.YtmdfihmmencdoaaDoor.Pfx
