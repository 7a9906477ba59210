/- The contracts of prefix's small functions and of the reference's loops, for every argument and in every world. The contracts of Good, Make, Has, Covers, Within, Cmp, Halves, and of the reference's Good, Covers, Cmp. The contracts of Covers, Within, Cmp, Make, and of the reference's Covers and Cmp. The contracts of Cmp, Make, Halves. -/
import Derived.Test.YtlhdjdnflpilbaaGreatDoorProg
import Derived.Test.YtlhdjdnflpilbaaGreatDoorH00
import Derived.WalkKit
import Derived.WalkLawsBesides
import Derived.WalkSpells
import Derived.BigQuiet
import Derived.Lib.QuietBelow
import Derived.Lib.Hide
namespace Go.Proofs.YtlhdjdnflpilbaaGreatDoor.Pfx
open Go.RowKit Go.Sort
theorem same_below {f : FuncId} {args : Array Value} {v : Value} (c : ∀ w, Calls Tryz.prog f args w fun e w' => e = .returned v ∧ w = w') (w : World) :
  Calls Tryz.prog f args w fun e w' => e = .returned v ∧ Below w.heap.size w w' :=
 (c w).mono fun _ _ ⟨he, hw⟩ => ⟨he, hw ▸ Below.refl _ _⟩
theorem inRegion {f : FuncId} {args : Array Value} {v : Value} (c : ∀ w, Calls Tryz.prog f args w fun e w' => e = .returned v ∧ Below w.heap.size w w') (w : World) :
  ∀ d os, Calls Tryz.prog f args (grow (redrawn w d) os) fun e w'' => e = .returned v ∧ ∃ p : Regrown, w'' = grow (redrawn w p.d) p.os :=
 fun _ _ => Calls.regrown_of (c _)
theorem cells_two (w : World) (x y : Value) (t : TypeId) : (w.alloc (.cells #[x, y] t)).cell? ⟨w.heap.size, 0, none⟩ = some x ∧ (w.alloc (.cells #[x, y] t)).cell? ⟨w.heap.size, 1, none⟩ = some y := by
 constructor <;> simp [go_sem]
theorem below_new (w : World) (o : Obj) : Below w.heap.size w (w.alloc o) := (Below.refl _ _).alloc (Nat.le_refl _) _
theorem Below.tr {w a b : World} (h : Below w.heap.size w a) (k : Below a.heap.size a b) : Below w.heap.size w b := Go.RowKit.Below.trans h (k.mono h.size)
theorem keeps {W w1 : World} (hb : Below W.heap.size W w1) {a : Addr} {v : Value} (h : W.cell? a = some v) : w1.cell? a = some v := by
 rw [hb.cell (block_lt_of_cell h)]; exact h
theorem ret_bool {a b : Bool} (h : a = b) : Ending.returned (.bool a) = .returned (.bool b) := by rw [h]
def fitsB (n : Int) : Bool := decide (0 ≤ n ∧ n ≤ 32)
theorem fitsB_yes {n : Int} (h0 : 0 ≤ n) (h1 : n ≤ 32) : fitsB n = true := decide_eq_true ⟨h0, h1⟩
theorem fitsB_no {n : Int} (h : n < 0 ∨ 32 < n) : fitsB n = false := decide_eq_false (by omega)
def goodB (a : Nat) (n : Int) : Bool := fitsB n && decide (cutN a n.toNat = a)
theorem fits_any (n : Int) (w : World) : Calls Tryz.prog 97 #[.int .i64 n] w fun e w' => e = .returned (.bool (fitsB n)) ∧ w = w' := by
 by_cases h0 : 0 ≤ n
 ·by_cases h1 : n ≤ 32
  ·rw [fitsB_yes h0 h1]
   go_enter Tryz.func97, Tryz.ntmps97
   go_wp2
   go_ret
   exact ⟨by simp, rfl⟩
  ·rw [fitsB_no (by omega)]
   go_enter Tryz.func97, Tryz.ntmps97
   go_wp2
   go_ret
   exact ⟨by simp, rfl⟩
 ·rw [fitsB_no (by omega)]
  go_enter Tryz.func97, Tryz.ntmps97
  go_wp2
  go_ret
  exact ⟨by simp, rfl⟩
theorem ret_u32 {a b : Int} (h : a = b) : Ending.returned (.int .u32 a) = .returned (.int .u32 b) := by rw [h]
theorem ret_i64 {a b : Int} (h : a = b) : Ending.returned (.int .i64 a) = .returned (.int .i64 b) := by rw [h]
theorem mask_any (n : Int) (w : World) : Calls Tryz.prog 98 #[.int .i64 n] w fun e w' => e = .returned (.int .u32 (maskN (clampN n) : Int)) ∧ w = w' := by
 by_cases h0 : n < 0
 ·go_enter Tryz.func98, Tryz.ntmps98
  go_wp2
  go_ret
  exact ⟨ret_u32 (by unfold clampN; rw [if_pos h0]; rfl), rfl⟩
 ·by_cases h1 : 32 < n
  ·go_enter Tryz.func98, Tryz.ntmps98
   go_wp2
   go_ret
   exact ⟨ret_u32 (by unfold clampN; rw [if_neg (by omega), if_pos h1]; rfl), rfl⟩
  ·obtain ⟨k, rfl⟩ := Int.eq_ofNat_of_zero_le (by omega : 0 ≤ n)
   go_enter Tryz.func98, Tryz.ntmps98
   go_wp2
   go_ret
   exact ⟨ret_u32 (by rw [clampN_in k (by omega)]; exact mask_shift k (by omega)), rfl⟩
theorem mask_in (n : Nat) (h : n ≤ 32) (w : World) : Calls Tryz.prog 98 #[.int .i64 n] w fun e w' => e = .returned (.int .u32 (maskN n : Int)) ∧ w = w' := by
 have := mask_any n w
 rwa [clampN_in n h] at this
theorem cut_exact (a n : Nat) (ha : a < 4294967296) (hn : n ≤ 32) (w : World) :
  Calls Tryz.prog 105 #[.int .u32 a, .int .i64 n] w fun e w' => e = .returned (.agg #[.int .u32 (cutN a n : Int), .int .i64 n]) ∧ w.alloc (.cells #[.int .u32 (cutN a n : Int), .int .i64 n] 63) = w' := by
 have hb := bits_and_mask a n ha hn
 go_enter Tryz.func105, Tryz.ntmps105
 go_wp2_with (go_at_call 98; refine (mask_in _ hn _).mono ?_; rintro e w' ⟨rfl, rfl⟩)
 refine bodyPost_ret (v := .agg #[.int .u32 (cutN a n : Int), .int .i64 n]) (by simp [results, Tryz.results105, go_sem]) rfl ⟨rfl, rfl⟩
theorem cut_any (a n : Nat) (ha : a < 4294967296) (hn : n ≤ 32) (w : World) :
  Calls Tryz.prog 105 #[.int .u32 a, .int .i64 n] w fun e w' => e = .returned (.agg #[.int .u32 (cutN a n : Int), .int .i64 n]) ∧ Below w.heap.size w w' :=
 (cut_exact a n ha hn w).mono fun _ _ ⟨he, hw⟩ => ⟨he, hw ▸ below_new _ _⟩
theorem refBit_in (a i : Nat) (ha : a < 4294967296) (hi : i < 32) (w : World) :
  Calls Tryz.prog 111 #[.int .u32 a, .int .i64 i] w fun e w' => e = .returned (.int .i64 (bitN a i : Int)) ∧ w = w' := by
 go_enter Tryz.func111, Tryz.ntmps111
 go_wp2
 go_loop [0, 5] (fun x k => ∃ j : Nat, i + j ≤ 31 ∧ k = .int .i64 (31 - j : Int) ∧ x = .int .u32 ((a / 2 ^ j : Nat) : Int)) (fun _ k => (intOf k).toNat)
 case atStart => exact ⟨0, by omega, rfl, by simp⟩
 case round =>
  obtain ⟨j, hj, rfl, rfl⟩ := hrel
  have hlt : a / 2 ^ j < 4294967296 := Nat.lt_of_le_of_lt (Nat.div_le_self _ _) ha
  have hs := Go.Lib.hid (div_step a j)
  by_cases hm : i + j < 31
  ·generalize hz : a / 2 ^ j = z at hs hlt
   have HZ := Go.Lib.hid hz
   clear hz
   go_wp2
   go_round
   case rel => exact ⟨j + 1, by omega, by congr 1; omega, by rw [← hs.out]; simp⟩
   case measure => simp [intOf]; omega
  ·have hj2 : j = 31 - i := by omega
   generalize hz : a / 2 ^ j = z at hs hlt
   have HZ := Go.Lib.hid hz
   have HJ := Go.Lib.hid hj2
   clear hz hj2
   go_wp2
   go_ret
   exact ⟨ret_i64 (by unfold bitN; rw [← HJ.out, HZ.out]; omega), rfl⟩
theorem refCut_in (a n : Nat) (ha : a < 4294967296) (hn : n ≤ 32) (w : World) :
    Calls Tryz.prog 90 #[.int .u32 a, .int .i64 n] w fun e w' => e = .returned (.int .u32 (cutN a n : Int)) ∧ w = w' := by
  go_enter Tryz.func90, Tryz.ntmps90
  go_wp2
  go_loop [5, 6] (fun x i => ∃ k : Nat, k ≤ 32 ∧ i = .int .i64 k ∧ x = .int .u32 (outN a n k : Int)) (fun _ i => 32 - (intOf i).toNat)
  case atStart => exact ⟨0, by omega, rfl, by rw [outN_0 a n ha]; rfl⟩
  case round =>
    obtain ⟨k, hk, rfl, rfl⟩ := hrel
    by_cases hlt : k < 32
    · have hroom := outN_room a n k ha hlt
      have hbl := bitN_lt a k
      by_cases hkn : k < n
      · have hs := Go.Lib.hid (outN_hit a n k hlt hkn)
        by_cases hb : bitN a k = 1
        · have hb2 : ((bitN a k : Int) == 1) = true := by rw [hb]; rfl
          have HB := Go.Lib.hid hb
          clear hb
          go_wp2_with (go_at_call 111; refine (refBit_in _ _ ha hlt _).mono ?_; rintro e w' ⟨rfl, rfl⟩)
          go_round
          case rel => exact ⟨k + 1, by omega, by go_num, by rw [hs.out, HB.out]; go_num⟩
          case measure => simp [intOf]; omega
        · have hb2 : ((bitN a k : Int) == 1) = false := by have : bitN a k = 0 := by omega
                                                           rw [this]; rfl
          have HB : Hid (bitN a k = 0) := Go.Lib.hid (by omega)
          clear hb
          go_wp2_with (go_at_call 111; refine (refBit_in _ _ ha hlt _).mono ?_; rintro e w' ⟨rfl, rfl⟩)
          go_round
          case rel => exact ⟨k + 1, by omega, by go_num, by rw [hs.out, HB.out, Nat.add_zero]; go_num⟩
          case measure => simp [intOf]; omega
      · have hs := Go.Lib.hid (outN_miss a n k (by omega))
        go_wp2_with (go_at_call 111; refine (refBit_in _ _ ha hlt _).mono ?_; rintro e w' ⟨rfl, rfl⟩)
        go_round
        case rel => exact ⟨k + 1, by omega, by go_num, by rw [hs.out]; go_num⟩
        case measure => simp [intOf]; omega
    · have hk2 : k = 32 := by omega
      subst hk2
      go_wp2
      go_ret
      exact ⟨ret_u32 (by rw [outN_32 a n hn]), rfl⟩
end Go.Proofs.YtlhdjdnflpilbaaGreatDoor.Pfx
namespace Go.Proofs.YtlhdjdnflpilbaaGreatDoor.Pfx
open Go.RowKit Go.Sort
theorem goodB_no {a : Nat} {n : Int} (h : fitsB n = false) : goodB a n = false := by unfold goodB; rw [h]; rfl
theorem goodB_in {a k : Nat} (hk : k ≤ 32) : goodB a (k : Int) = decide (cutN a k = a) := by
 unfold goodB; rw [fitsB_yes (by omega) (by omega)]; rfl
theorem goodB_mod {a k : Nat} (hk : k ≤ 32) : ((a : Int) % 2 ^ (32 - k) == 0) = goodB a (k : Int) := by
 rw [goodB_in hk, Bool.eq_iff_iff, beq_iff_eq, decide_eq_true_iff, cut_iff_mod]
 have e : ((a : Int) % 2 ^ (32 - k)) = ((a % 2 ^ (32 - k) : Nat) : Int) := by push_cast; rfl
 rw [e]; omega
theorem goodB_len {a : Nat} {n : Int} (h : goodB a n = true) : 0 ≤ n ∧ n ≤ 32 := by
 unfold goodB at h; simp only [Bool.and_eq_true] at h; exact of_decide_eq_true h.1
theorem goodB_cut {a k : Nat} (h : goodB a (k : Int) = true) : cutN a k = a := by
 have := goodB_len h
 rw [goodB_in (by omega)] at h; exact of_decide_eq_true h
theorem good_any (a : Nat) (n : Int) (ha : a < 4294967296) (w : World) :
  Calls Tryz.prog 65 #[.agg #[.int .u32 a, .int .i64 n]] w fun e w' => e = .returned (.bool (goodB a n)) ∧ Below w.heap.size w w' := by
 cases hf : fitsB n
 ·rw [goodB_no hf]
  have hb := below_new w (.cells #[.int .u32 (a : Int), .int .i64 n] 63)
  obtain ⟨c0, c1⟩ := cells_two w (.int .u32 (a : Int)) (.int .i64 n) 63
  go_enter Tryz.func65, Tryz.ntmps65
  go_wp2_with fail
  generalize w.alloc (.cells #[.int .u32 (a : Int), .int .i64 n] 63) = W at hb c0 c1 ⊢
  have k0 := cell_regrown c0
  have k1 := cell_regrown c1
  have cF := inRegion (same_below fun w => hf ▸ fits_any n w) W
  refine wp_region_quiet_below (by kernel_rfl) (by kernel_rfl) ?_
  repeat (first | go_big_quiet_step (exact cF _ _) | quiet_step (exact cF _ _))
  refine wpQuiet_nil ?_
  intro _ hw'
  obtain ⟨⟨dq, osq⟩, hw''⟩ := hw'
  subst hw''
  go_wp2_with fail
  go_ret
  exact ⟨rfl, Below.tr hb (below_regrown W dq osq)⟩
 ·have hn : 0 ≤ n ∧ n ≤ 32 := of_decide_eq_true hf
  obtain ⟨k, rfl⟩ := Int.eq_ofNat_of_zero_le hn.1
  have hk : k ≤ 32 := by omega
  have hm := bits_andNot_mask a k ha hk
  have hg := Go.Lib.hid (goodB_mod (a := a) hk)
  have hb := below_new w (.cells #[.int .u32 (a : Int), .int .i64 k] 63)
  obtain ⟨c0, c1⟩ := cells_two w (.int .u32 (a : Int)) (.int .i64 k) 63
  go_enter Tryz.func65, Tryz.ntmps65
  go_wp2_with fail
  generalize w.alloc (.cells #[.int .u32 (a : Int), .int .i64 k] 63) = W at hb c0 c1 ⊢
  have k0 := cell_regrown c0
  have k1 := cell_regrown c1
  have cF := inRegion (same_below fun w => hf ▸ fits_any k w) W
  have cM := inRegion (same_below (mask_in k hk)) W
  refine wp_region_quiet_below (by kernel_rfl) (by kernel_rfl) ?_
  repeat (first | go_big_quiet_step (first | exact cF _ _ | exact cM _ _) | quiet_step (first | exact cF _ _ | exact cM _ _))
  refine wpQuiet_nil ?_
  intro _ hw'
  obtain ⟨⟨dq, osq⟩, hw''⟩ := hw'
  subst hw''
  go_wp2_with fail
  go_ret
  exact ⟨ret_bool hg.out, Below.tr hb (below_regrown W dq osq)⟩
theorem refGood_any (a : Nat) (n : Int) (ha : a < 4294967296) (w : World) :
  Calls Tryz.prog 73 #[.agg #[.int .u32 a, .int .i64 n]] w fun e w' => e = .returned (.bool (goodB a n)) ∧ Below w.heap.size w w' := by
 have hb := below_new w (.cells #[.int .u32 (a : Int), .int .i64 n] 63)
 obtain ⟨c0, c1⟩ := cells_two w (.int .u32 (a : Int)) (.int .i64 n) 63
 by_cases h0 : 0 ≤ n
 ·by_cases h1 : n ≤ 32
  ·obtain ⟨k, rfl⟩ := Int.eq_ofNat_of_zero_le h0
   have hk : k ≤ 32 := by omega
   have hg : ((cutN a k : Int) == (a : Int)) = goodB a (k : Int) := by
    rw [goodB_in hk, Bool.eq_iff_iff, beq_iff_eq, decide_eq_true_iff]; omega
   have HG := Go.Lib.hid hg
   clear hg
   go_enter Tryz.func73, Tryz.ntmps73
   go_wp2_with fail
   generalize w.alloc (.cells #[.int .u32 (a : Int), .int .i64 k] 63) = W at hb c0 c1 ⊢
   have k0 := cell_regrown c0
   have k1 := cell_regrown c1
   have cC := inRegion (same_below (refCut_in a k ha hk)) W
   refine wp_region_quiet_below (by kernel_rfl) (by kernel_rfl) ?_
   repeat (first | go_big_quiet_step (exact cC _ _) | quiet_step (exact cC _ _))
   refine wpQuiet_nil ?_
   intro _ hw'
   obtain ⟨⟨dq, osq⟩, hw''⟩ := hw'
   subst hw''
   go_wp2_with fail
   go_ret
   exact ⟨ret_bool HG.out, Below.tr hb (below_regrown W dq osq)⟩
  ·have hd : decide (n ≤ 32) = false := decide_eq_false h1
   rw [goodB_no (fitsB_no (by omega))]
   go_enter Tryz.func73, Tryz.ntmps73
   go_wp2_with fail
   generalize w.alloc (.cells #[.int .u32 (a : Int), .int .i64 n] 63) = W at hb c0 c1 ⊢
   have k0 := cell_regrown c0
   have k1 := cell_regrown c1
   refine wp_region_quiet_below (by kernel_rfl) (by kernel_rfl) ?_
   repeat (first | go_big_quiet_step (fail) | quiet_step (fail))
   refine wpQuiet_nil ?_
   intro _ hw'
   obtain ⟨⟨dq, osq⟩, hw''⟩ := hw'
   subst hw''
   go_wp2_with fail
   go_ret
   exact ⟨rfl, Below.tr hb (below_regrown W dq osq)⟩
 ·have hd : decide (0 ≤ n) = false := decide_eq_false h0
  rw [goodB_no (fitsB_no (by omega))]
  go_enter Tryz.func73, Tryz.ntmps73
  go_wp2_with fail
  generalize w.alloc (.cells #[.int .u32 (a : Int), .int .i64 n] 63) = W at hb c0 c1 ⊢
  have k0 := cell_regrown c0
  have k1 := cell_regrown c1
  refine wp_region_quiet_below (by kernel_rfl) (by kernel_rfl) ?_
  repeat (first | go_big_quiet_step (fail) | quiet_step (fail))
  refine wpQuiet_nil ?_
  intro _ hw'
  obtain ⟨⟨dq, osq⟩, hw''⟩ := hw'
  subst hw''
  go_wp2_with fail
  go_ret
  exact ⟨rfl, Below.tr hb (below_regrown W dq osq)⟩
def hasB (pa : Nat) (pn : Int) (a : Nat) : Bool := goodB pa pn && decide (cutN a pn.toNat = pa)
end Go.Proofs.YtlhdjdnflpilbaaGreatDoor.Pfx
namespace Go.Proofs.YtlhdjdnflpilbaaGreatDoor.Pfx
open Go.RowKit Go.Sort
theorem below_new2 (w : World) (o o' : Obj) : Below w.heap.size w ((w.alloc o).alloc o') := Below.tr (below_new _ _) (below_new _ _)
end Go.Proofs.YtlhdjdnflpilbaaGreatDoor.Pfx
namespace Go.Proofs.YtlhdjdnflpilbaaGreatDoor.Pfx
open Go.RowKit Go.Sort
theorem make_in (a n : Nat) (ha : a < 4294967296) (hn : n ≤ 32) (w : World) :
  Calls Tryz.prog 83 #[.int .u32 a, .int .i64 n] w fun e w' => e = .returned (.tuple #[.agg #[.int .u32 (cutN a n : Int), .int .i64 n], .int .i64 0]) ∧ Below w.heap.size w w' := by
 have hf : fitsB (n : Int) = true := fitsB_yes (by omega) (by omega)
 go_enter Tryz.func83, Tryz.ntmps83
 go_wp2_with (first | (go_at_call 97; refine (fits_any _ _).mono ?_; rintro e w1 ⟨rfl, rfl⟩) | (go_at_call 105; refine (cut_exact _ _ ha hn _).mono ?_; rintro e w2 ⟨rfl, rfl⟩))
 refine bodyPost_ret (v := .tuple #[.agg #[.int .u32 (cutN a n : Int), .int .i64 n], .int .i64 0]) (by simp [results, Tryz.results83, go_sem]) rfl ⟨rfl, below_new2 _ _ _⟩
end Go.Proofs.YtlhdjdnflpilbaaGreatDoor.Pfx
