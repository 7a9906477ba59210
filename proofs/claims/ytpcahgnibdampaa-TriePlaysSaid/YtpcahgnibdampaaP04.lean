/- The contracts of prefix's small functions and of the reference's loops, for every argument and in every world. The contracts of Good, Make, Has, Covers, Within, Cmp, Halves, and of the reference's Good, Covers, Cmp. The contracts of Covers, Within, Cmp, Make, and of the reference's Covers and Cmp. Words for memory: three new blocks of two cells. It speaks of no function of the program. The contracts of Cmp, Make, Halves. -/
import Derived.Test.YtpcahgnibdampaaProg
import Derived.Test.YtpcahgnibdampaaP03
import Derived.WalkKit
import Derived.WalkLawsBesides
import Derived.WalkSpells
import Derived.BigQuiet
import Derived.Lib.QuietBelow
import Derived.Lib.Hide
namespace Go.Proofs.Ytpcahgnibdampaa.Pfx
open Go.RowKit Go.Sort
theorem same_below {f : FuncId} {args : Array Value} {v : Value} (c : ∀ w, Calls Try.prog f args w fun e w' => e = .returned v ∧ w = w') (w : World) :
    Calls Try.prog f args w fun e w' => e = .returned v ∧ Below w.heap.size w w' :=
  (c w).mono fun _ _ ⟨he, hw⟩ => ⟨he, hw ▸ Below.refl _ _⟩
theorem inRegion {f : FuncId} {args : Array Value} {v : Value} (c : ∀ w, Calls Try.prog f args w fun e w' => e = .returned v ∧ Below w.heap.size w w') (w : World) :
    ∀ d os, Calls Try.prog f args (grow (redrawn w d) os) fun e w'' => e = .returned v ∧ ∃ p : Regrown, w'' = grow (redrawn w p.d) p.os :=
  fun _ _ => Calls.regrown_of (c _)
theorem cells_two (w : World) (x y : Value) (t : TypeId) : (w.alloc (.cells #[x, y] t)).cell? ⟨w.heap.size, 0, none⟩ = some x ∧ (w.alloc (.cells #[x, y] t)).cell? ⟨w.heap.size, 1, none⟩ = some y := by
  constructor <;> simp [go_sem]
theorem below_new (w : World) (o : Obj) : Below w.heap.size w (w.alloc o) := (Below.refl _ _).alloc (Nat.le_refl _) _
theorem Below.tr {w a b : World} (h : Below w.heap.size w a) (k : Below a.heap.size a b) : Below w.heap.size w b := Go.RowKit.Below.trans h (k.mono h.size)
theorem keeps {W w1 : World} (hb : Below W.heap.size W w1) {a : Addr} {v : Value} (h : W.cell? a = some v) : w1.cell? a = some v := by
  rw [hb.cell (block_lt_of_cell h)]; exact h
theorem ret_bool {a b : Bool} (h : a = b) : Ending.returned (.bool a) = .returned (.bool b) := by rw [h]
def fitsB (n : Int) : Bool := decide (0 ≤ n ∧ n ≤ 32)
theorem fitsB_yes {n : Int} (h0 : 0 ≤ n) (h1 : n ≤ 32) : fitsB n = true := decide_eq_true ⟨h0, h1⟩
theorem fitsB_no {n : Int} (h : n < 0 ∨ 32 < n) : fitsB n = false := decide_eq_false (by omega)
def goodB (a : Nat) (n : Int) : Bool := fitsB n && decide (cutN a n.toNat = a)
theorem fits_any (n : Int) (w : World) : Calls Try.prog 54 #[.int .i64 n] w fun e w' => e = .returned (.bool (fitsB n)) ∧ w = w' := by
  by_cases h0 : 0 ≤ n
  · by_cases h1 : n ≤ 32
    · rw [fitsB_yes h0 h1]
      go_enter Try.func54, Try.ntmps54
      go_wp2
      go_ret
      exact ⟨by simp, rfl⟩
    · rw [fitsB_no (by omega)]
      go_enter Try.func54, Try.ntmps54
      go_wp2
      go_ret
      exact ⟨by simp, rfl⟩
  · rw [fitsB_no (by omega)]
    go_enter Try.func54, Try.ntmps54
    go_wp2
    go_ret
    exact ⟨by simp, rfl⟩
theorem ret_u32 {a b : Int} (h : a = b) : Ending.returned (.int .u32 a) = .returned (.int .u32 b) := by rw [h]
theorem ret_i64 {a b : Int} (h : a = b) : Ending.returned (.int .i64 a) = .returned (.int .i64 b) := by rw [h]
theorem mask_any (n : Int) (w : World) : Calls Try.prog 56 #[.int .i64 n] w fun e w' => e = .returned (.int .u32 (maskN (clampN n) : Int)) ∧ w = w' := by
  by_cases h0 : n < 0
  · go_enter Try.func56, Try.ntmps56
    go_wp2
    go_ret
    exact ⟨ret_u32 (by unfold clampN; rw [if_pos h0]; rfl), rfl⟩
  · by_cases h1 : 32 < n
    · go_enter Try.func56, Try.ntmps56
      go_wp2
      go_ret
      exact ⟨ret_u32 (by unfold clampN; rw [if_neg (by omega), if_pos h1]; rfl), rfl⟩
    · obtain ⟨k, rfl⟩ := Int.eq_ofNat_of_zero_le (by omega : 0 ≤ n)
      go_enter Try.func56, Try.ntmps56
      go_wp2
      go_ret
      exact ⟨ret_u32 (by rw [clampN_in k (by omega)]; exact mask_shift k (by omega)), rfl⟩
theorem mask_in (n : Nat) (h : n ≤ 32) (w : World) : Calls Try.prog 56 #[.int .i64 n] w fun e w' => e = .returned (.int .u32 (maskN n : Int)) ∧ w = w' := by
  have := mask_any n w
  rwa [clampN_in n h] at this
theorem cut_exact (a n : Nat) (ha : a < 4294967296) (hn : n ≤ 32) (w : World) :
    Calls Try.prog 55 #[.int .u32 a, .int .i64 n] w fun e w' => e = .returned (.agg #[.int .u32 (cutN a n : Int), .int .i64 n]) ∧ w.alloc (.cells #[.int .u32 (cutN a n : Int), .int .i64 n] 25) = w' := by
  have hb := bits_and_mask a n ha hn
  go_enter Try.func55, Try.ntmps55
  go_wp2_with (go_at_call 56; refine (mask_in _ hn _).mono ?_; rintro e w' ⟨rfl, rfl⟩)
  refine bodyPost_ret (v := .agg #[.int .u32 (cutN a n : Int), .int .i64 n]) (by simp [results, Try.results55, go_sem]) rfl ⟨rfl, rfl⟩
theorem cut_any (a n : Nat) (ha : a < 4294967296) (hn : n ≤ 32) (w : World) :
    Calls Try.prog 55 #[.int .u32 a, .int .i64 n] w fun e w' => e = .returned (.agg #[.int .u32 (cutN a n : Int), .int .i64 n]) ∧ Below w.heap.size w w' :=
  (cut_exact a n ha hn w).mono fun _ _ ⟨he, hw⟩ => ⟨he, hw ▸ below_new _ _⟩
theorem bit_in (a i : Nat) (ha : a < 4294967296) (hi : i < 32) (w : World) :
    Calls Try.prog 61 #[.int .u32 a, .int .i64 i] w fun e w' => e = .returned (.int .i64 (bitN a i : Int)) ∧ w = w' := by
  have hb := bit_and a i ha
  have hl := bitN_lt a i
  have hw : wrap64 (bitN a i : Int) = (bitN a i : Int) := IntWalk.wrap64_in _ ⟨by omega, by omega⟩
  go_enter Try.func61, Try.ntmps61
  go_wp2
  go_ret
  exact ⟨rfl, rfl⟩
theorem bit_out (a : Nat) (i : Int) (hi : i < 0 ∨ 31 < i) (w : World) :
    Calls Try.prog 61 #[.int .u32 a, .int .i64 i] w fun e w' => e = .returned (.int .i64 0) ∧ w = w' := by
  rcases hi with h | h
  all_goals
    go_enter Try.func61, Try.ntmps61
    go_wp2
    go_ret
    exact ⟨rfl, rfl⟩
theorem refBit_in (a i : Nat) (ha : a < 4294967296) (hi : i < 32) (w : World) :
    Calls Try.prog 59 #[.int .u32 a, .int .i64 i] w fun e w' => e = .returned (.int .i64 (bitN a i : Int)) ∧ w = w' := by
  go_enter Try.func59, Try.ntmps59
  go_wp2
  go_loop [0, 5] (fun x k => ∃ j : Nat, i + j ≤ 31 ∧ k = .int .i64 (31 - j : Int) ∧ x = .int .u32 ((a / 2 ^ j : Nat) : Int)) (fun _ k => (intOf k).toNat)
  case atStart => exact ⟨0, by omega, rfl, by simp⟩
  case round =>
    obtain ⟨j, hj, rfl, rfl⟩ := hrel
    have hlt : a / 2 ^ j < 4294967296 := Nat.lt_of_le_of_lt (Nat.div_le_self _ _) ha
    have hs := Go.Lib.hid (div_step a j)
    by_cases hm : i + j < 31
    · generalize hz : a / 2 ^ j = z at hs hlt
      have HZ := Go.Lib.hid hz
      clear hz
      go_wp2
      go_round
      case rel => exact ⟨j + 1, by omega, by congr 1; omega, by rw [← hs.out]; simp⟩
      case measure => simp [intOf]; omega
    · have hj2 : j = 31 - i := by omega
      generalize hz : a / 2 ^ j = z at hs hlt
      have HZ := Go.Lib.hid hz
      have HJ := Go.Lib.hid hj2
      clear hz hj2
      go_wp2
      go_ret
      exact ⟨ret_i64 (by unfold bitN; rw [← HJ.out, HZ.out]; omega), rfl⟩
theorem refCut_in (a n : Nat) (ha : a < 4294967296) (hn : n ≤ 32) (w : World) :
    Calls Try.prog 49 #[.int .u32 a, .int .i64 n] w fun e w' => e = .returned (.int .u32 (cutN a n : Int)) ∧ w = w' := by
  go_enter Try.func49, Try.ntmps49
  go_wp2
  go_loop [5, 6] (fun x i => ∃ k : Nat, k ≤ 32 ∧ i = .int .i64 k ∧ x = .int .u32 (outN a n k : Int)) (fun _ i => 32 - (intOf i).toNat)
  case atStart => exact ⟨0, by omega, rfl, by rw [outN_0 a n ha]; rfl⟩
  case round =>
    obtain ⟨k, hk, rfl, rfl⟩ := hrel
    by_cases hlt : k < 32
    · have hroom := outN_room a n k ha hlt
      have hbl := bitN_lt a k
      by_cases hkn : k < n
      · have hs := Go.Lib.hid (outN_hit a n k hlt hkn)
        by_cases hb : bitN a k = 1
        · have hb2 : ((bitN a k : Int) == 1) = true := by rw [hb]; rfl
          have HB := Go.Lib.hid hb
          clear hb
          go_wp2_with (go_at_call 59; refine (refBit_in _ _ ha hlt _).mono ?_; rintro e w' ⟨rfl, rfl⟩)
          go_round
          case rel => exact ⟨k + 1, by omega, by go_num, by rw [hs.out, HB.out]; go_num⟩
          case measure => simp [intOf]; omega
        · have hb2 : ((bitN a k : Int) == 1) = false := by have : bitN a k = 0 := by omega
                                                           rw [this]; rfl
          have HB : Hid (bitN a k = 0) := Go.Lib.hid (by omega)
          clear hb
          go_wp2_with (go_at_call 59; refine (refBit_in _ _ ha hlt _).mono ?_; rintro e w' ⟨rfl, rfl⟩)
          go_round
          case rel => exact ⟨k + 1, by omega, by go_num, by rw [hs.out, HB.out, Nat.add_zero]; go_num⟩
          case measure => simp [intOf]; omega
      · have hs := Go.Lib.hid (outN_miss a n k (by omega))
        go_wp2_with (go_at_call 59; refine (refBit_in _ _ ha hlt _).mono ?_; rintro e w' ⟨rfl, rfl⟩)
        go_round
        case rel => exact ⟨k + 1, by omega, by go_num, by rw [hs.out]; go_num⟩
        case measure => simp [intOf]; omega
    · have hk2 : k = 32 := by omega
      subst hk2
      go_wp2
      go_ret
      exact ⟨ret_u32 (by rw [outN_32 a n hn]), rfl⟩
end Go.Proofs.Ytpcahgnibdampaa.Pfx
namespace Go.Proofs.Ytpcahgnibdampaa.Pfx
open Go.RowKit Go.Sort
theorem goodB_no {a : Nat} {n : Int} (h : fitsB n = false) : goodB a n = false := by unfold goodB; rw [h]; rfl
theorem goodB_in {a k : Nat} (hk : k ≤ 32) : goodB a (k : Int) = decide (cutN a k = a) := by
  unfold goodB; rw [fitsB_yes (by omega) (by omega)]; rfl
theorem goodB_mod {a k : Nat} (hk : k ≤ 32) : ((a : Int) % 2 ^ (32 - k) == 0) = goodB a (k : Int) := by
  rw [goodB_in hk, Bool.eq_iff_iff, beq_iff_eq, decide_eq_true_iff, cut_iff_mod]
  have e : ((a : Int) % 2 ^ (32 - k)) = ((a % 2 ^ (32 - k) : Nat) : Int) := by push_cast; rfl
  rw [e]; omega
theorem goodB_len {a : Nat} {n : Int} (h : goodB a n = true) : 0 ≤ n ∧ n ≤ 32 := by
  unfold goodB at h; simp only [Bool.and_eq_true] at h; exact of_decide_eq_true h.1
theorem goodB_cut {a k : Nat} (h : goodB a (k : Int) = true) : cutN a k = a := by
  have := goodB_len h
  rw [goodB_in (by omega)] at h; exact of_decide_eq_true h
theorem good_any (a : Nat) (n : Int) (ha : a < 4294967296) (w : World) :
    Calls Try.prog 40 #[.agg #[.int .u32 a, .int .i64 n]] w fun e w' => e = .returned (.bool (goodB a n)) ∧ Below w.heap.size w w' := by
  cases hf : fitsB n
  · rw [goodB_no hf]
    have hb := below_new w (.cells #[.int .u32 (a : Int), .int .i64 n] 25)
    obtain ⟨c0, c1⟩ := cells_two w (.int .u32 (a : Int)) (.int .i64 n) 25
    go_enter Try.func40, Try.ntmps40
    go_wp2_with fail
    generalize w.alloc (.cells #[.int .u32 (a : Int), .int .i64 n] 25) = W at hb c0 c1 ⊢
    have k0 := cell_regrown c0
    have k1 := cell_regrown c1
    have cF := inRegion (same_below fun w => hf ▸ fits_any n w) W
    refine wp_region_quiet_below (by kernel_rfl) (by kernel_rfl) ?_
    repeat (first | go_big_quiet_step (exact cF _ _) | quiet_step (exact cF _ _))
    refine wpQuiet_nil ?_
    intro _ hw'
    obtain ⟨⟨dq, osq⟩, hw''⟩ := hw'
    subst hw''
    go_wp2_with fail
    go_ret
    exact ⟨rfl, Below.tr hb (below_regrown W dq osq)⟩
  · have hn : 0 ≤ n ∧ n ≤ 32 := of_decide_eq_true hf
    obtain ⟨k, rfl⟩ := Int.eq_ofNat_of_zero_le hn.1
    have hk : k ≤ 32 := by omega
    have hm := bits_andNot_mask a k ha hk
    have hg := Go.Lib.hid (goodB_mod (a := a) hk)
    have hb := below_new w (.cells #[.int .u32 (a : Int), .int .i64 k] 25)
    obtain ⟨c0, c1⟩ := cells_two w (.int .u32 (a : Int)) (.int .i64 k) 25
    go_enter Try.func40, Try.ntmps40
    go_wp2_with fail
    generalize w.alloc (.cells #[.int .u32 (a : Int), .int .i64 k] 25) = W at hb c0 c1 ⊢
    have k0 := cell_regrown c0
    have k1 := cell_regrown c1
    have cF := inRegion (same_below fun w => hf ▸ fits_any k w) W
    have cM := inRegion (same_below (mask_in k hk)) W
    refine wp_region_quiet_below (by kernel_rfl) (by kernel_rfl) ?_
    repeat (first | go_big_quiet_step (first | exact cF _ _ | exact cM _ _) | quiet_step (first | exact cF _ _ | exact cM _ _))
    refine wpQuiet_nil ?_
    intro _ hw'
    obtain ⟨⟨dq, osq⟩, hw''⟩ := hw'
    subst hw''
    go_wp2_with fail
    go_ret
    exact ⟨ret_bool hg.out, Below.tr hb (below_regrown W dq osq)⟩
theorem refGood_any (a : Nat) (n : Int) (ha : a < 4294967296) (w : World) :
    Calls Try.prog 27 #[.agg #[.int .u32 a, .int .i64 n]] w fun e w' => e = .returned (.bool (goodB a n)) ∧ Below w.heap.size w w' := by
  have hb := below_new w (.cells #[.int .u32 (a : Int), .int .i64 n] 25)
  obtain ⟨c0, c1⟩ := cells_two w (.int .u32 (a : Int)) (.int .i64 n) 25
  by_cases h0 : 0 ≤ n
  · by_cases h1 : n ≤ 32
    · obtain ⟨k, rfl⟩ := Int.eq_ofNat_of_zero_le h0
      have hk : k ≤ 32 := by omega
      have hg : ((cutN a k : Int) == (a : Int)) = goodB a (k : Int) := by
        rw [goodB_in hk, Bool.eq_iff_iff, beq_iff_eq, decide_eq_true_iff]; omega
      have HG := Go.Lib.hid hg
      clear hg
      go_enter Try.func27, Try.ntmps27
      go_wp2_with fail
      generalize w.alloc (.cells #[.int .u32 (a : Int), .int .i64 k] 25) = W at hb c0 c1 ⊢
      have k0 := cell_regrown c0
      have k1 := cell_regrown c1
      have cC := inRegion (same_below (refCut_in a k ha hk)) W
      refine wp_region_quiet_below (by kernel_rfl) (by kernel_rfl) ?_
      repeat (first | go_big_quiet_step (exact cC _ _) | quiet_step (exact cC _ _))
      refine wpQuiet_nil ?_
      intro _ hw'
      obtain ⟨⟨dq, osq⟩, hw''⟩ := hw'
      subst hw''
      go_wp2_with fail
      go_ret
      exact ⟨ret_bool HG.out, Below.tr hb (below_regrown W dq osq)⟩
    · have hd : decide (n ≤ 32) = false := decide_eq_false h1
      rw [goodB_no (fitsB_no (by omega))]
      go_enter Try.func27, Try.ntmps27
      go_wp2_with fail
      generalize w.alloc (.cells #[.int .u32 (a : Int), .int .i64 n] 25) = W at hb c0 c1 ⊢
      have k0 := cell_regrown c0
      have k1 := cell_regrown c1
      refine wp_region_quiet_below (by kernel_rfl) (by kernel_rfl) ?_
      repeat (first | go_big_quiet_step (fail) | quiet_step (fail))
      refine wpQuiet_nil ?_
      intro _ hw'
      obtain ⟨⟨dq, osq⟩, hw''⟩ := hw'
      subst hw''
      go_wp2_with fail
      go_ret
      exact ⟨rfl, Below.tr hb (below_regrown W dq osq)⟩
  · have hd : decide (0 ≤ n) = false := decide_eq_false h0
    rw [goodB_no (fitsB_no (by omega))]
    go_enter Try.func27, Try.ntmps27
    go_wp2_with fail
    generalize w.alloc (.cells #[.int .u32 (a : Int), .int .i64 n] 25) = W at hb c0 c1 ⊢
    have k0 := cell_regrown c0
    have k1 := cell_regrown c1
    refine wp_region_quiet_below (by kernel_rfl) (by kernel_rfl) ?_
    repeat (first | go_big_quiet_step (fail) | quiet_step (fail))
    refine wpQuiet_nil ?_
    intro _ hw'
    obtain ⟨⟨dq, osq⟩, hw''⟩ := hw'
    subst hw''
    go_wp2_with fail
    go_ret
    exact ⟨rfl, Below.tr hb (below_regrown W dq osq)⟩
def hasB (pa : Nat) (pn : Int) (a : Nat) : Bool := goodB pa pn && decide (cutN a pn.toNat = pa)
theorem has_any (pa : Nat) (pn : Int) (a : Nat) (hpa : pa < 4294967296) (ha : a < 4294967296) (w : World) :
    Calls Try.prog 60 #[.agg #[.int .u32 pa, .int .i64 pn], .int .u32 a] w fun e w' => e = .returned (.bool (hasB pa pn a)) ∧ Below w.heap.size w w' := by
  have hb := below_new w (.cells #[.int .u32 (pa : Int), .int .i64 pn] 25)
  obtain ⟨c0, c1⟩ := cells_two w (.int .u32 (pa : Int)) (.int .i64 pn) 25
  cases hg : goodB pa pn
  · have e : hasB pa pn a = false := by unfold hasB; rw [hg]; rfl
    rw [e]
    go_enter Try.func60, Try.ntmps60
    go_wp2_with fail
    generalize w.alloc (.cells #[.int .u32 (pa : Int), .int .i64 pn] 25) = W at hb c0 c1 ⊢
    have k0 := cell_regrown c0
    have k1 := cell_regrown c1
    have cG := inRegion (hg ▸ good_any pa pn hpa) W
    refine wp_region_quiet_below (by kernel_rfl) (by kernel_rfl) ?_
    repeat (first | go_big_quiet_step (exact cG _ _) | quiet_step (exact cG _ _))
    refine wpQuiet_nil ?_
    intro _ hw'
    obtain ⟨⟨dq, osq⟩, hw''⟩ := hw'
    subst hw''
    go_wp2_with fail
    go_ret
    exact ⟨rfl, Below.tr hb (below_regrown W dq osq)⟩
  · have hl := goodB_len hg
    obtain ⟨k, rfl⟩ := Int.eq_ofNat_of_zero_le hl.1
    have hk : k ≤ 32 := by omega
    have hm := bits_and_mask a k ha hk
    have he : ((cutN a k : Int) == (pa : Int)) = hasB pa (k : Int) a := by
      unfold hasB; rw [hg, Bool.true_and, Bool.eq_iff_iff, beq_iff_eq, decide_eq_true_iff]; simp; omega
    have HE := Go.Lib.hid he
    clear he
    go_enter Try.func60, Try.ntmps60
    go_wp2_with fail
    generalize w.alloc (.cells #[.int .u32 (pa : Int), .int .i64 k] 25) = W at hb c0 c1 ⊢
    have k0 := cell_regrown c0
    have k1 := cell_regrown c1
    have cG := inRegion (hg ▸ good_any pa k hpa) W
    have cM := inRegion (same_below (mask_in k hk)) W
    refine wp_region_quiet_below (by kernel_rfl) (by kernel_rfl) ?_
    repeat (first | go_big_quiet_step (first | exact cG _ _ | exact cM _ _) | quiet_step (first | exact cG _ _ | exact cM _ _))
    refine wpQuiet_nil ?_
    intro _ hw'
    obtain ⟨⟨dq, osq⟩, hw''⟩ := hw'
    subst hw''
    go_wp2_with fail
    go_ret
    exact ⟨ret_bool HE.out, Below.tr hb (below_regrown W dq osq)⟩
end Go.Proofs.Ytpcahgnibdampaa.Pfx
namespace Go.Proofs.Ytpcahgnibdampaa.Pfx
open Go.RowKit Go.Sort
theorem cells_four (w : World) (x y z u : Value) (t : TypeId) :
    ((w.alloc (.cells #[x, y] t)).alloc (.cells #[z, u] t)).cell? ⟨w.heap.size, 0, none⟩ = some x ∧ ((w.alloc (.cells #[x, y] t)).alloc (.cells #[z, u] t)).cell? ⟨w.heap.size, 1, none⟩ = some y ∧
    ((w.alloc (.cells #[x, y] t)).alloc (.cells #[z, u] t)).cell? ⟨w.heap.size + 1, 0, none⟩ = some z ∧ ((w.alloc (.cells #[x, y] t)).alloc (.cells #[z, u] t)).cell? ⟨w.heap.size + 1, 1, none⟩ = some u := by
  refine ⟨?_, ?_, ?_, ?_⟩ <;> simp [go_sem]
theorem below_new2 (w : World) (o o' : Obj) : Below w.heap.size w ((w.alloc o).alloc o') := Below.tr (below_new _ _) (below_new _ _)
def coversB (pa : Nat) (pn : Int) (qa : Nat) (qn : Int) : Bool := goodB qa qn && decide (pn ≤ qn) && hasB pa pn qa
theorem covers_any (pa : Nat) (pn : Int) (qa : Nat) (qn : Int) (hpa : pa < 4294967296) (hqa : qa < 4294967296) (w : World) :
    Calls Try.prog 53 #[.agg #[.int .u32 pa, .int .i64 pn], .agg #[.int .u32 qa, .int .i64 qn]] w fun e w' => e = .returned (.bool (coversB pa pn qa qn)) ∧ Below w.heap.size w w' := by
  have hb := below_new2 w (.cells #[.int .u32 (pa : Int), .int .i64 pn] 25) (.cells #[.int .u32 (qa : Int), .int .i64 qn] 25)
  obtain ⟨c0, c1, c2, c3⟩ := cells_four w (.int .u32 (pa : Int)) (.int .i64 pn) (.int .u32 (qa : Int)) (.int .i64 qn) 25
  cases hq : goodB qa qn
  · have e : coversB pa pn qa qn = false := by unfold coversB; rw [hq]; rfl
    rw [e]
    go_enter Try.func53, Try.ntmps53
    go_wp2_with fail
    generalize (w.alloc (.cells #[.int .u32 (pa : Int), .int .i64 pn] 25)).alloc (.cells #[.int .u32 (qa : Int), .int .i64 qn] 25) = W at hb c0 c1 c2 c3 ⊢
    go_wp2_with (go_at_call 40; refine (good_any _ _ hqa _).mono ?_; rintro e w1 ⟨rfl, hb1⟩)
    go_ret
    exact ⟨ret_bool (by simp), Below.tr hb hb1⟩
  · by_cases hle : pn ≤ qn
    · have e : coversB pa pn qa qn = hasB pa pn qa := by unfold coversB; rw [hq, decide_eq_true hle]; rfl
      rw [e]
      go_enter Try.func53, Try.ntmps53
      go_wp2_with fail
      generalize (w.alloc (.cells #[.int .u32 (pa : Int), .int .i64 pn] 25)).alloc (.cells #[.int .u32 (qa : Int), .int .i64 qn] 25) = W at hb c0 c1 c2 c3 ⊢
      go_wp2_with (first | (go_at_call 40; refine (good_any _ _ hqa _).mono ?_; rintro e w1 ⟨rfl, hb1⟩; have d0 := keeps hb1 c0; have d1 := keeps hb1 c1; have d2 := keeps hb1 c2; have d3 := keeps hb1 c3) | (go_at_call 60; refine (has_any _ _ _ hpa hqa _).mono ?_; rintro e w2 ⟨rfl, hb2⟩))
      go_ret
      exact ⟨ret_bool (by simp), Below.tr hb (Below.tr hb1 hb2)⟩
    · have e : coversB pa pn qa qn = false := by unfold coversB; rw [hq, decide_eq_false hle]; rfl
      rw [e]
      go_enter Try.func53, Try.ntmps53
      go_wp2_with fail
      generalize (w.alloc (.cells #[.int .u32 (pa : Int), .int .i64 pn] 25)).alloc (.cells #[.int .u32 (qa : Int), .int .i64 qn] 25) = W at hb c0 c1 c2 c3 ⊢
      go_wp2_with (first | (go_at_call 40; refine (good_any _ _ hqa _).mono ?_; rintro e w1 ⟨rfl, hb1⟩; have d0 := keeps hb1 c0; have d1 := keeps hb1 c1; have d2 := keeps hb1 c2; have d3 := keeps hb1 c3) | (go_at_call 60; refine (has_any _ _ _ hpa hqa _).mono ?_; rintro e w2 ⟨rfl, hb2⟩))
      go_ret
      exact ⟨ret_bool (by simp), Below.tr hb hb1⟩
theorem refCovers_any (pa : Nat) (pn : Int) (qa : Nat) (qn : Int) (hpa : pa < 4294967296) (hqa : qa < 4294967296) (w : World) :
    Calls Try.prog 29 #[.agg #[.int .u32 pa, .int .i64 pn], .agg #[.int .u32 qa, .int .i64 qn]] w fun e w' => e = .returned (.bool (coversB pa pn qa qn)) ∧ Below w.heap.size w w' := by
  have hb := below_new2 w (.cells #[.int .u32 (pa : Int), .int .i64 pn] 25) (.cells #[.int .u32 (qa : Int), .int .i64 qn] 25)
  obtain ⟨c0, c1, c2, c3⟩ := cells_four w (.int .u32 (pa : Int)) (.int .i64 pn) (.int .u32 (qa : Int)) (.int .i64 qn) 25
  cases hp : goodB pa pn
  · have e : coversB pa pn qa qn = false := by unfold coversB hasB; rw [hp]; simp
    rw [e]
    go_enter Try.func29, Try.ntmps29
    go_wp2_with fail
    generalize (w.alloc (.cells #[.int .u32 (pa : Int), .int .i64 pn] 25)).alloc (.cells #[.int .u32 (qa : Int), .int .i64 qn] 25) = W at hb c0 c1 c2 c3 ⊢
    go_wp2_with (go_at_call 27; refine (refGood_any _ _ hpa _).mono ?_; rintro e w1 ⟨rfl, hb1⟩)
    go_ret
    exact ⟨rfl, Below.tr hb hb1⟩
  cases hq : goodB qa qn
  · have e : coversB pa pn qa qn = false := by unfold coversB; rw [hq]; rfl
    rw [e]
    go_enter Try.func29, Try.ntmps29
    go_wp2_with fail
    generalize (w.alloc (.cells #[.int .u32 (pa : Int), .int .i64 pn] 25)).alloc (.cells #[.int .u32 (qa : Int), .int .i64 qn] 25) = W at hb c0 c1 c2 c3 ⊢
    go_wp2_with (first | (go_at_call 27; with_reducible refine (refGood_any pa pn hpa _).mono ?_; rintro e w1 ⟨rfl, hb1⟩; have d0 := keeps hb1 c0; have d1 := keeps hb1 c1; have d2 := keeps hb1 c2; have d3 := keeps hb1 c3) | (go_at_call 27; with_reducible refine (refGood_any qa qn hqa _).mono ?_; rintro e w2 ⟨rfl, hb2⟩))
    go_ret
    exact ⟨rfl, Below.tr hb (Below.tr hb1 hb2)⟩
  by_cases hle : pn ≤ qn
  · have hl := goodB_len hp
    obtain ⟨k, rfl⟩ := Int.eq_ofNat_of_zero_le hl.1
    have hk : k ≤ 32 := by omega
    have he : ((cutN qa k : Int) == (pa : Int)) = coversB pa (k : Int) qa qn := by
      unfold coversB hasB; rw [hp, hq, decide_eq_true hle, Bool.true_and, Bool.true_and, Bool.true_and, Bool.eq_iff_iff, beq_iff_eq, decide_eq_true_iff]; simp; omega
    have HE := Go.Lib.hid he
    clear he
    go_enter Try.func29, Try.ntmps29
    go_wp2_with fail
    generalize (w.alloc (.cells #[.int .u32 (pa : Int), .int .i64 k] 25)).alloc (.cells #[.int .u32 (qa : Int), .int .i64 qn] 25) = W at hb c0 c1 c2 c3 ⊢
    go_wp2_with (first | (go_at_call 27; with_reducible refine (refGood_any pa k hpa _).mono ?_; rintro e w1 ⟨rfl, hb1⟩; have d0 := keeps hb1 c0; have d1 := keeps hb1 c1; have d2 := keeps hb1 c2; have d3 := keeps hb1 c3) | (go_at_call 27; with_reducible refine (refGood_any qa qn hqa _).mono ?_; rintro e w2 ⟨rfl, hb2⟩; have g0 := keeps hb2 d0; have g1 := keeps hb2 d1; have g2 := keeps hb2 d2; have g3 := keeps hb2 d3))
    have k0 := cell_regrown g0
    have k1 := cell_regrown g1
    have k2 := cell_regrown g2
    have k3 := cell_regrown g3
    have cC := inRegion (same_below (refCut_in qa k hqa hk)) w2
    refine wp_region_quiet_below (by kernel_rfl) (by kernel_rfl) ?_
    repeat (first | go_big_quiet_step (exact cC _ _) | quiet_step (exact cC _ _))
    refine wpQuiet_nil ?_
    intro _ hw'
    obtain ⟨⟨dq, osq⟩, hw''⟩ := hw'
    subst hw''
    go_wp2_with fail
    go_ret
    exact ⟨ret_bool HE.out, Below.tr hb (Below.tr hb1 (Below.tr hb2 (below_regrown w2 dq osq)))⟩
  · have e : coversB pa pn qa qn = false := by unfold coversB; rw [decide_eq_false hle]; simp
    rw [e]
    go_enter Try.func29, Try.ntmps29
    go_wp2_with fail
    generalize (w.alloc (.cells #[.int .u32 (pa : Int), .int .i64 pn] 25)).alloc (.cells #[.int .u32 (qa : Int), .int .i64 qn] 25) = W at hb c0 c1 c2 c3 ⊢
    go_wp2_with (first | (go_at_call 27; with_reducible refine (refGood_any pa pn hpa _).mono ?_; rintro e w1 ⟨rfl, hb1⟩; have d0 := keeps hb1 c0; have d1 := keeps hb1 c1; have d2 := keeps hb1 c2; have d3 := keeps hb1 c3) | (go_at_call 27; with_reducible refine (refGood_any qa qn hqa _).mono ?_; rintro e w2 ⟨rfl, hb2⟩; have g0 := keeps hb2 d0; have g1 := keeps hb2 d1; have g2 := keeps hb2 d2; have g3 := keeps hb2 d3))
    go_ret
    exact ⟨rfl, Below.tr hb (Below.tr hb1 hb2)⟩
def withinB (pa : Nat) (pn : Int) (qa : Nat) (qn : Int) : Bool := !decide (pa = qa ∧ pn = qn) && coversB qa qn pa pn
theorem within_any (pa : Nat) (pn : Int) (qa : Nat) (qn : Int) (hpa : pa < 4294967296) (hqa : qa < 4294967296) (w : World) :
    Calls Try.prog 51 #[.agg #[.int .u32 pa, .int .i64 pn], .agg #[.int .u32 qa, .int .i64 qn]] w fun e w' => e = .returned (.bool (withinB pa pn qa qn)) ∧ Below w.heap.size w w' := by
  by_cases ha : pa = qa
  · subst ha
    by_cases hn : pn = qn
    · subst hn
      have e : withinB pa pn pa pn = false := by unfold withinB; simp
      rw [e]
      have hb := below_new2 w (.cells #[.int .u32 (pa : Int), .int .i64 pn] 25) (.cells #[.int .u32 (pa : Int), .int .i64 pn] 25)
      go_enter Try.func51, Try.ntmps51
      go_wp2_with fail
      go_ret
      exact ⟨rfl, hb⟩
    · have e : withinB pa pn pa qn = coversB pa qn pa pn := by unfold withinB; rw [decide_eq_false (by simp [hn])]; rfl
      rw [e]
      have hb := below_new2 w (.cells #[.int .u32 (pa : Int), .int .i64 pn] 25) (.cells #[.int .u32 (pa : Int), .int .i64 qn] 25)
      obtain ⟨c0, c1, c2, c3⟩ := cells_four w (.int .u32 (pa : Int)) (.int .i64 pn) (.int .u32 (pa : Int)) (.int .i64 qn) 25
      go_enter Try.func51, Try.ntmps51
      go_wp2_with fail
      generalize (w.alloc (.cells #[.int .u32 (pa : Int), .int .i64 pn] 25)).alloc (.cells #[.int .u32 (pa : Int), .int .i64 qn] 25) = W at hb c0 c1 c2 c3 ⊢
      go_wp2_with (go_at_call 53; with_reducible refine (covers_any pa qn pa pn hpa hpa _).mono ?_; rintro e w1 ⟨rfl, hb1⟩)
      go_ret
      exact ⟨rfl, Below.tr hb hb1⟩
  · have ha2 : ¬ ((pa : Int) = (qa : Int)) := by omega
    have e : withinB pa pn qa qn = coversB qa qn pa pn := by unfold withinB; rw [decide_eq_false (by simp [ha])]; rfl
    rw [e]
    have hb := below_new2 w (.cells #[.int .u32 (pa : Int), .int .i64 pn] 25) (.cells #[.int .u32 (qa : Int), .int .i64 qn] 25)
    obtain ⟨c0, c1, c2, c3⟩ := cells_four w (.int .u32 (pa : Int)) (.int .i64 pn) (.int .u32 (qa : Int)) (.int .i64 qn) 25
    go_enter Try.func51, Try.ntmps51
    go_wp2_with fail
    generalize (w.alloc (.cells #[.int .u32 (pa : Int), .int .i64 pn] 25)).alloc (.cells #[.int .u32 (qa : Int), .int .i64 qn] 25) = W at hb c0 c1 c2 c3 ⊢
    go_wp2_with (go_at_call 53; with_reducible refine (covers_any qa qn pa pn hqa hpa _).mono ?_; rintro e w1 ⟨rfl, hb1⟩)
    go_ret
    exact ⟨rfl, Below.tr hb hb1⟩
def cmpP (pa : Nat) (pn : Int) (qa : Nat) (qn : Int) : Int := if pa < qa ∨ (pa = qa ∧ pn < qn) then -1 else if pa = qa ∧ pn = qn then 0 else 1
theorem refCmp_any (pa : Nat) (pn : Int) (qa : Nat) (qn : Int) (w : World) :
    Calls Try.prog 50 #[.agg #[.int .u32 pa, .int .i64 pn], .agg #[.int .u32 qa, .int .i64 qn]] w fun e w' => e = .returned (.int .i64 (cmpP pa pn qa qn)) ∧ Below w.heap.size w w' := by
  have hb := below_new2 w (.cells #[.int .u32 (pa : Int), .int .i64 pn] 25) (.cells #[.int .u32 (qa : Int), .int .i64 qn] 25)
  rcases Nat.lt_trichotomy pa qa with h | h | h
  · have e : cmpP pa pn qa qn = -1 := by unfold cmpP; rw [if_pos (Or.inl h)]
    rw [e]
    go_enter Try.func50, Try.ntmps50
    go_wp2_with fail
    go_ret
    exact ⟨rfl, hb⟩
  · subst h
    rcases Int.lt_trichotomy pn qn with h | h | h
    · have e : cmpP pa pn pa qn = -1 := by unfold cmpP; rw [if_pos (Or.inr ⟨rfl, h⟩)]
      rw [e]
      go_enter Try.func50, Try.ntmps50
      go_wp2_with fail
      go_ret
      exact ⟨rfl, hb⟩
    · subst h
      have e : cmpP pa pn pa pn = 0 := by unfold cmpP; rw [if_neg (by omega), if_pos ⟨rfl, rfl⟩]
      rw [e]
      go_enter Try.func50, Try.ntmps50
      go_wp2_with fail
      go_ret
      exact ⟨rfl, hb⟩
    · have e : cmpP pa pn pa qn = 1 := by unfold cmpP; rw [if_neg (by omega), if_neg (by omega)]
      have hne : ¬ pn = qn := by omega
      rw [e]
      go_enter Try.func50, Try.ntmps50
      go_wp2_with fail
      go_ret
      exact ⟨rfl, hb⟩
  · have e : cmpP pa pn qa qn = 1 := by unfold cmpP; rw [if_neg (by omega), if_neg (by omega)]
    have hne : ¬ ((pa : Int) = (qa : Int)) := by omega
    rw [e]
    go_enter Try.func50, Try.ntmps50
    go_wp2_with fail
    go_ret
    exact ⟨rfl, hb⟩
end Go.Proofs.Ytpcahgnibdampaa.Pfx
namespace Go.Proofs.Ytpcahgnibdampaa.Pfx
open Go.RowKit Go.Sort
theorem cells_six (w : World) (x y z u : Value) (p q : Value) (t : TypeId) :
    (((w.alloc (.cells #[x, y] t)).alloc (.cells #[z, u] t)).alloc (.cells #[p, q] t)).cell? ⟨w.heap.size, 0, none⟩ = some x ∧ (((w.alloc (.cells #[x, y] t)).alloc (.cells #[z, u] t)).alloc (.cells #[p, q] t)).cell? ⟨w.heap.size, 1, none⟩ = some y ∧
    (((w.alloc (.cells #[x, y] t)).alloc (.cells #[z, u] t)).alloc (.cells #[p, q] t)).cell? ⟨w.heap.size + 1, 0, none⟩ = some z ∧ (((w.alloc (.cells #[x, y] t)).alloc (.cells #[z, u] t)).alloc (.cells #[p, q] t)).cell? ⟨w.heap.size + 1, 1, none⟩ = some u ∧
    (((w.alloc (.cells #[x, y] t)).alloc (.cells #[z, u] t)).alloc (.cells #[p, q] t)).cell? ⟨w.heap.size + 2, 0, none⟩ = some p ∧ (((w.alloc (.cells #[x, y] t)).alloc (.cells #[z, u] t)).alloc (.cells #[p, q] t)).cell? ⟨w.heap.size + 2, 1, none⟩ = some q := by
  refine ⟨?_, ?_, ?_, ?_, ?_, ?_⟩ <;> simp [go_sem]
theorem frozen_six (w : World) (x y z u : Value) (p q : Value) (t : TypeId) :
    (((w.alloc (.cells #[x, y] t)).alloc (.cells #[z, u] t)).alloc (.cells #[p, q] t)).frozen? ⟨w.heap.size + 1, 0, none⟩ = false ∧ (((w.alloc (.cells #[x, y] t)).alloc (.cells #[z, u] t)).alloc (.cells #[p, q] t)).frozen? ⟨w.heap.size + 1, 1, none⟩ = false ∧
    (((w.alloc (.cells #[x, y] t)).alloc (.cells #[z, u] t)).alloc (.cells #[p, q] t)).frozen? ⟨w.heap.size + 2, 0, none⟩ = false ∧ (((w.alloc (.cells #[x, y] t)).alloc (.cells #[z, u] t)).alloc (.cells #[p, q] t)).frozen? ⟨w.heap.size + 2, 1, none⟩ = false := by
  refine ⟨?_, ?_, ?_, ?_⟩ <;> simp [go_sem]
theorem below_new3 (w : World) (o o' o'' : Obj) : Below w.heap.size w (((w.alloc o).alloc o').alloc o'') := Below.tr (below_new2 _ _ _) (below_new _ _)
theorem keepsF {W w1 : World} (hb : Below W.heap.size W w1) {a : Addr} {v : Value} {x : Bool} (hc : W.cell? a = some v) (h : W.frozen? a = x) : w1.frozen? a = x := by
  rw [hb.frozen (block_lt_of_cell hc)]; exact h
end Go.Proofs.Ytpcahgnibdampaa.Pfx
namespace Go.Proofs.Ytpcahgnibdampaa.Pfx
open Go.RowKit Go.Sort
theorem make_in (a n : Nat) (ha : a < 4294967296) (hn : n ≤ 32) (w : World) :
    Calls Try.prog 32 #[.int .u32 a, .int .i64 n] w fun e w' => e = .returned (.tuple #[.agg #[.int .u32 (cutN a n : Int), .int .i64 n], .int .i64 0]) ∧ Below w.heap.size w w' := by
  have hf : fitsB (n : Int) = true := fitsB_yes (by omega) (by omega)
  go_enter Try.func32, Try.ntmps32
  go_wp2_with (first | (go_at_call 54; refine (fits_any _ _).mono ?_; rintro e w1 ⟨rfl, rfl⟩) | (go_at_call 55; refine (cut_exact _ _ ha hn _).mono ?_; rintro e w2 ⟨rfl, rfl⟩))
  refine bodyPost_ret (v := .tuple #[.agg #[.int .u32 (cutN a n : Int), .int .i64 n], .int .i64 0]) (by simp [results, Try.results32, go_sem]) rfl ⟨rfl, below_new2 _ _ _⟩
end Go.Proofs.Ytpcahgnibdampaa.Pfx
