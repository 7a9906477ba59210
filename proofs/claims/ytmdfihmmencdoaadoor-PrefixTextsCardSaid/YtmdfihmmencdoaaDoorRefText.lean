/- The reference's texts: the contracts of Num, Addr and Text. -/
import Derived.Test.YtmdfihmmencdoaaDoorPfxText
namespace Go.Proofs.YtmdfihmmencdoaaDoor.Pfx
open Go.RowKit Go.Sort

theorem digit_piece : ∀ n : Fin 10, (ByteArray.mk #[48, 49, 50, 51, 52, 53, 54, 55, 56, 57]).extract n.val (n.val + 1) = strOf [UInt8.ofNat (48 + n.val)] := by decide +kernel

theorem num_one (n : Nat) (h : n < 10) (w : World) : Calls Tryd.prog 38 #[.int .u64 n] w fun e w' => e = .returned (.string (strOf (dec n))) ∧ w = w' := by
  have hp := digit_piece ⟨n, h⟩
  simp only at hp
  rw [dec_one h]
  go_enter Tryd.func38, Tryd.ntmps38
  go_wp2_with fail
  go_ret
  exact ⟨by simp, rfl⟩
theorem num_two (n : Nat) (h : n < 100) (w : World) : Calls Tryd.prog 38 #[.int .u64 n] w fun e w' => e = .returned (.string (strOf (dec n))) ∧ w = w' := by
  by_cases h1 : n < 10
  · exact num_one n h1 w
  · have l1 := dec_len (n / 10) (by omega)
    have l2 := dec_len (n % 10) (by omega)
    have s1 : ¬ 9223372036854775807 < (strOf (dec (n / 10))).size + (strOf (dec (n % 10))).size := by rw [strOf_size, strOf_size]; omega
    have q1 := num_one (n / 10) (by omega)
    rw [show ((n / 10 : Nat) : Int) = (n : Int) / 10 by omega] at q1
    have C1 := Go.Lib.hid q1
    have q2 := num_one (n % 10) (by omega)
    rw [show ((n % 10 : Nat) : Int) = (n : Int) % 10 by omega] at q2
    have C2 := Go.Lib.hid q2
    clear q1 q2
    have E : Hid (dec n = dec (n / 10) ++ dec (n % 10)) := Go.Lib.hid (by rw [dec_step h1, dec_one (show n % 10 < 10 by omega)])
    go_enter Tryd.func38, Tryd.ntmps38
    go_wp2_with (first | (go_at_call 38; with_reducible refine (C1.out _).mono ?_; rintro e w1 ⟨rfl, rfl⟩) | (go_at_call 38; with_reducible refine (C2.out _).mono ?_; rintro e w1 ⟨rfl, rfl⟩))
    go_ret
    exact ⟨by rw [E.out, ← strOf_append]; rfl, rfl⟩
theorem num_any (n : Nat) (h : n < 1000) (w : World) : Calls Tryd.prog 38 #[.int .u64 n] w fun e w' => e = .returned (.string (strOf (dec n))) ∧ w = w' := by
  by_cases h1 : n < 10
  · exact num_one n h1 w
  · have l1 := dec_len (n / 10) (by omega)
    have l2 := dec_len (n % 10) (by omega)
    have s1 : ¬ 9223372036854775807 < (strOf (dec (n / 10))).size + (strOf (dec (n % 10))).size := by rw [strOf_size, strOf_size]; omega
    have q1 := num_two (n / 10) (by omega)
    rw [show ((n / 10 : Nat) : Int) = (n : Int) / 10 by omega] at q1
    have C1 := Go.Lib.hid q1
    have q2 := num_one (n % 10) (by omega)
    rw [show ((n % 10 : Nat) : Int) = (n : Int) % 10 by omega] at q2
    have C2 := Go.Lib.hid q2
    clear q1 q2
    have E : Hid (dec n = dec (n / 10) ++ dec (n % 10)) := Go.Lib.hid (by rw [dec_step h1, dec_one (show n % 10 < 10 by omega)])
    go_enter Tryd.func38, Tryd.ntmps38
    go_wp2_with (first | (go_at_call 38; with_reducible refine (C1.out _).mono ?_; rintro e w1 ⟨rfl, rfl⟩) | (go_at_call 38; with_reducible refine (C2.out _).mono ?_; rintro e w1 ⟨rfl, rfl⟩))
    go_ret
    exact ⟨by rw [E.out, ← strOf_append]; rfl, rfl⟩

theorem refAddr_any (a : Nat) (ha : a < 4294967296) (w : World) :
    Calls Tryd.prog 29 #[.int .u32 a] w fun e w' => e = .returned (.string (strOf (addrT a))) ∧ w = w' := by
  have l0 := byteN_lt a 0
  have l1 := byteN_lt a 1
  have l2 := byteN_lt a 2
  have l3 := byteN_lt a 3
  have d0 := dec_len (byteN a 0) (by omega)
  have d1 := dec_len (byteN a 1) (by omega)
  have d2 := dec_len (byteN a 2) (by omega)
  have d3 := dec_len (byteN a 3) (by omega)
  have q0 := num_any (byteN a 0) (by omega)
  have q1 := num_any (byteN a 1) (by omega)
  have q2 := num_any (byteN a 2) (by omega)
  have q3 := num_any (byteN a 3) (by omega)
  rw [show ((byteN a 0 : Nat) : Int) = (a : Int) / 16777216 by unfold byteN; simp; omega] at q0
  rw [show ((byteN a 1 : Nat) : Int) = (a : Int) / 65536 % 256 by unfold byteN; simp] at q1
  rw [show ((byteN a 2 : Nat) : Int) = (a : Int) / 256 % 256 by unfold byteN; simp] at q2
  rw [show ((byteN a 3 : Nat) : Int) = (a : Int) % 256 by unfold byteN; simp] at q3
  have E : Hid (strOf (addrT a) = strOf (dec (byteN a 0)) ++ ⟨#[46]⟩ ++ strOf (dec (byteN a 1)) ++ ⟨#[46]⟩ ++ strOf (dec (byteN a 2)) ++ ⟨#[46]⟩ ++ strOf (dec (byteN a 3))) := Go.Lib.hid (by
    rw [show (⟨#[46]⟩ : ByteArray) = strOf [46] from rfl, strOf_append, strOf_append, strOf_append, strOf_append, strOf_append, strOf_append, addrT_form]
    simp)
  generalize strOf (addrT a) = T at E ⊢
  generalize hx0 : strOf (dec (byteN a 0)) = x0 at q0 E
  generalize hx1 : strOf (dec (byteN a 1)) = x1 at q1 E
  generalize hx2 : strOf (dec (byteN a 2)) = x2 at q2 E
  generalize hx3 : strOf (dec (byteN a 3)) = x3 at q3 E
  have z0 : x0.size ≤ 3 := by rw [← hx0, strOf_size]; exact d0
  have z1 : x1.size ≤ 3 := by rw [← hx1, strOf_size]; exact d1
  have z2 : x2.size ≤ 3 := by rw [← hx2, strOf_size]; exact d2
  have z3 : x3.size ≤ 3 := by rw [← hx3, strOf_size]; exact d3
  clear hx0 hx1 hx2 hx3 d0 d1 d2 d3
  have C0 := Go.Lib.hid q0
  have C1 := Go.Lib.hid q1
  have C2 := Go.Lib.hid q2
  have C3 := Go.Lib.hid q3
  clear q0 q1 q2 q3
  have n1 : ¬ 9223372036854775807 < x0.size + 1 := by omega
  have n2 : ¬ 9223372036854775807 < x0.size + 1 + x1.size := by omega
  have n3 : ¬ 9223372036854775807 < x0.size + 1 + x1.size + 1 := by omega
  have n4 : ¬ 9223372036854775807 < x0.size + 1 + x1.size + 1 + x2.size := by omega
  have n5 : ¬ 9223372036854775807 < x0.size + 1 + x1.size + 1 + x2.size + 1 := by omega
  have n6 : ¬ 9223372036854775807 < x0.size + 1 + x1.size + 1 + x2.size + 1 + x3.size := by omega
  clear z0 z1 z2 z3 l0 l1 l2 l3
  go_enter Tryd.func29, Tryd.ntmps29
  go_wp2_with (go_at_call 38; (first | with_reducible refine (C0.out _).mono ?_ | with_reducible refine (C1.out _).mono ?_ | with_reducible refine (C2.out _).mono ?_ | with_reducible refine (C3.out _).mono ?_); rintro e w1 ⟨rfl, rfl⟩)
  go_ret
  exact ⟨by rw [E.out]; rfl, rfl⟩

/-- The reference's text of a good prefix. -/
theorem refText_good (a n : Nat) (ha : a < 4294967296) (hn : n ≤ 32) (hg : goodB a (n : Int) = true) (w : World) :
    Calls Tryd.prog 28 #[.agg #[.int .u32 a, .int .i64 n]] w fun e w' => e = .returned (.string (strOf (textT a n))) ∧ Below w.heap.size w w' := by
  have hb := below_new w (.cells #[.int .u32 (a : Int), .int .i64 n] 24)
  obtain ⟨c0, c1⟩ := cells_two w (.int .u32 (a : Int)) (.int .i64 n) 24
  have hA : (addrT a).length ≤ 16 := addrPre_len a 4
  have hN := dec_len n (by omega)
  have s1 : ¬ 9223372036854775807 < (strOf (addrT a)).size + 1 := by rw [strOf_size]; omega
  have s2 : ¬ 9223372036854775807 < (strOf (addrT a)).size + 1 + (strOf (dec n)).size := by rw [strOf_size, strOf_size]; omega
  go_enter Tryd.func28, Tryd.ntmps28
  go_wp2_with fail
  generalize w.alloc (.cells #[.int .u32 (a : Int), .int .i64 n] 24) = W at hb c0 c1 ⊢
  go_wp2_with (go_at_call 12; with_reducible refine (refGood_any a n ha _).mono ?_; rintro e w1 ⟨rfl, hb1⟩; have d0 := keeps hb1 c0; have d1 := keeps hb1 c1)
  have k0 := cell_regrown d0
  have k1 := cell_regrown d1
  have cA := inRegion (same_below (refAddr_any a ha)) w1
  have cI := inRegion (same_below (num_any n (by omega))) w1
  refine wp_region_quiet_below (by kernel_rfl) (by kernel_rfl) ?_
  repeat (first | go_big_quiet_step (first | with_reducible exact cA _ _ | with_reducible exact cI _ _) | quiet_step (first | with_reducible exact cA _ _ | with_reducible exact cI _ _))
  refine wpQuiet_nil ?_
  intro _ hw'
  obtain ⟨⟨dq, osq⟩, hw''⟩ := hw'
  subst hw''
  go_wp2_with fail
  go_ret
  refine ⟨?_, Below.tr hb (Below.tr hb1 (below_regrown w1 dq osq))⟩
  unfold textT
  rw [show addrT a ++ 47 :: dec n = addrT a ++ [47] ++ dec n by simp, ← strOf_append, ← strOf_append]
  rfl
theorem refText_bad (a : Nat) (n : Int) (ha : a < 4294967296) (hg : goodB a n = false) (w : World) :
    Calls Tryd.prog 28 #[.agg #[.int .u32 a, .int .i64 n]] w fun e w' => e = .returned (.string (strOf [])) ∧ Below w.heap.size w w' := by
  have hb := below_new w (.cells #[.int .u32 (a : Int), .int .i64 n] 24)
  obtain ⟨c0, c1⟩ := cells_two w (.int .u32 (a : Int)) (.int .i64 n) 24
  go_enter Tryd.func28, Tryd.ntmps28
  go_wp2_with fail
  generalize w.alloc (.cells #[.int .u32 (a : Int), .int .i64 n] 24) = W at hb c0 c1 ⊢
  go_wp2_with (go_at_call 12; with_reducible refine (refGood_any a n ha _).mono ?_; rintro e w1 ⟨rfl, hb1⟩)
  go_ret
  exact ⟨rfl, Below.tr hb hb1⟩

end Go.Proofs.YtmdfihmmencdoaaDoor.Pfx
