/- The contracts of prefix's small functions and of the reference's loops, for every argument and in every world. -/
import Derived.Test.YtgjdpmpbldofpaaDoorProg
import Derived.Test.YtgjdpmpbldofpaaDoorPfxMath
import Derived.WalkKit
import Derived.WalkLawsBesides
import Derived.WalkSpells
import Derived.BigQuiet
import Derived.Lib.QuietBelow
import Derived.Lib.Hide
namespace Go.Proofs.YtgjdpmpbldofpaaDoor.Pfx
open Go.RowKit Go.Sort

/-- A contract of a call that leaves the world alone, in the form that a drawn region asks. -/
theorem same_below {f : FuncId} {args : Array Value} {v : Value} (c : ∀ w, Calls Tryd.prog f args w fun e w' => e = .returned v ∧ w = w') (w : World) :
    Calls Tryd.prog f args w fun e w' => e = .returned v ∧ Below w.heap.size w w' :=
  (c w).mono fun _ _ ⟨he, hw⟩ => ⟨he, hw ▸ Below.refl _ _⟩
/-- A contract met in every world of a drawn region. -/
theorem inRegion {f : FuncId} {args : Array Value} {v : Value} (c : ∀ w, Calls Tryd.prog f args w fun e w' => e = .returned v ∧ Below w.heap.size w w') (w : World) :
    ∀ d os, Calls Tryd.prog f args (grow (redrawn w d) os) fun e w'' => e = .returned v ∧ ∃ p : Regrown, w'' = grow (redrawn w p.d) p.os :=
  fun _ _ => Calls.regrown_of (c _)

/-- Two cells of a new block. -/
theorem cells_two (w : World) (x y : Value) (t : TypeId) : (w.alloc (.cells #[x, y] t)).cell? ⟨w.heap.size, 0, none⟩ = some x ∧ (w.alloc (.cells #[x, y] t)).cell? ⟨w.heap.size, 1, none⟩ = some y := by
  constructor <;> simp [go_sem]
theorem below_new (w : World) (o : Obj) : Below w.heap.size w (w.alloc o) := (Below.refl _ _).alloc (Nat.le_refl _) _

theorem Below.tr {w a b : World} (h : Below w.heap.size w a) (k : Below a.heap.size a b) : Below w.heap.size w b := Go.RowKit.Below.trans h (k.mono h.size)
/-- A cell that was there reads as it did. -/
theorem keeps {W w1 : World} (hb : Below W.heap.size W w1) {a : Addr} {v : Value} (h : W.cell? a = some v) : w1.cell? a = some v := by
  rw [hb.cell (block_lt_of_cell h)]; exact h
theorem ret_bool {a b : Bool} (h : a = b) : Ending.returned (.bool a) = .returned (.bool b) := by rw [h]

def fitsB (n : Int) : Bool := decide (0 ≤ n ∧ n ≤ 32)
theorem fitsB_yes {n : Int} (h0 : 0 ≤ n) (h1 : n ≤ 32) : fitsB n = true := decide_eq_true ⟨h0, h1⟩
theorem fitsB_no {n : Int} (h : n < 0 ∨ 32 < n) : fitsB n = false := decide_eq_false (by omega)
def goodB (a : Nat) (n : Int) : Bool := fitsB n && decide (cutN a n.toNat = a)

theorem fits_any (n : Int) (w : World) : Calls Tryd.prog 36 #[.int .i64 n] w fun e w' => e = .returned (.bool (fitsB n)) ∧ w = w' := by
  by_cases h0 : 0 ≤ n
  · by_cases h1 : n ≤ 32
    · rw [fitsB_yes h0 h1]
      go_enter Tryd.func36, Tryd.ntmps36
      go_wp2
      go_ret
      exact ⟨by simp, rfl⟩
    · rw [fitsB_no (by omega)]
      go_enter Tryd.func36, Tryd.ntmps36
      go_wp2
      go_ret
      exact ⟨by simp, rfl⟩
  · rw [fitsB_no (by omega)]
    go_enter Tryd.func36, Tryd.ntmps36
    go_wp2
    go_ret
    exact ⟨by simp, rfl⟩

theorem ret_u32 {a b : Int} (h : a = b) : Ending.returned (.int .u32 a) = .returned (.int .u32 b) := by rw [h]
theorem ret_i64 {a b : Int} (h : a = b) : Ending.returned (.int .i64 a) = .returned (.int .i64 b) := by rw [h]

theorem mask_any (n : Int) (w : World) : Calls Tryd.prog 27 #[.int .i64 n] w fun e w' => e = .returned (.int .u32 (maskN (clampN n) : Int)) ∧ w = w' := by
  by_cases h0 : n < 0
  · go_enter Tryd.func27, Tryd.ntmps27
    go_wp2
    go_ret
    exact ⟨ret_u32 (by unfold clampN; rw [if_pos h0]; rfl), rfl⟩
  · by_cases h1 : 32 < n
    · go_enter Tryd.func27, Tryd.ntmps27
      go_wp2
      go_ret
      exact ⟨ret_u32 (by unfold clampN; rw [if_neg (by omega), if_pos h1]; rfl), rfl⟩
    · obtain ⟨k, rfl⟩ := Int.eq_ofNat_of_zero_le (by omega : 0 ≤ n)
      go_enter Tryd.func27, Tryd.ntmps27
      go_wp2
      go_ret
      exact ⟨ret_u32 (by rw [clampN_in k (by omega)]; exact mask_shift k (by omega)), rfl⟩
theorem mask_in (n : Nat) (h : n ≤ 32) (w : World) : Calls Tryd.prog 27 #[.int .i64 n] w fun e w' => e = .returned (.int .u32 (maskN n : Int)) ∧ w = w' := by
  have := mask_any n w
  rwa [clampN_in n h] at this

theorem cut_exact (a n : Nat) (ha : a < 4294967296) (hn : n ≤ 32) (w : World) :
    Calls Tryd.prog 41 #[.int .u32 a, .int .i64 n] w fun e w' => e = .returned (.agg #[.int .u32 (cutN a n : Int), .int .i64 n]) ∧ w.alloc (.cells #[.int .u32 (cutN a n : Int), .int .i64 n] 24) = w' := by
  have hb := bits_and_mask a n ha hn
  go_enter Tryd.func41, Tryd.ntmps41
  go_wp2_with (go_at_call 27; refine (mask_in _ hn _).mono ?_; rintro e w' ⟨rfl, rfl⟩)
  refine bodyPost_ret (v := .agg #[.int .u32 (cutN a n : Int), .int .i64 n]) (by simp [results, Tryd.results41, go_sem]) rfl ⟨rfl, rfl⟩
theorem cut_any (a n : Nat) (ha : a < 4294967296) (hn : n ≤ 32) (w : World) :
    Calls Tryd.prog 41 #[.int .u32 a, .int .i64 n] w fun e w' => e = .returned (.agg #[.int .u32 (cutN a n : Int), .int .i64 n]) ∧ Below w.heap.size w w' :=
  (cut_exact a n ha hn w).mono fun _ _ ⟨he, hw⟩ => ⟨he, hw ▸ below_new _ _⟩


/-- The reference's bit: a loop that halves. -/
theorem refBit_in (a i : Nat) (ha : a < 4294967296) (hi : i < 32) (w : World) :
    Calls Tryd.prog 37 #[.int .u32 a, .int .i64 i] w fun e w' => e = .returned (.int .i64 (bitN a i : Int)) ∧ w = w' := by
  go_enter Tryd.func37, Tryd.ntmps37
  go_wp2
  go_loop [0, 5] (fun x k => ∃ j : Nat, i + j ≤ 31 ∧ k = .int .i64 (31 - j : Int) ∧ x = .int .u32 ((a / 2 ^ j : Nat) : Int)) (fun _ k => (intOf k).toNat)
  case atStart => exact ⟨0, by omega, rfl, by simp⟩
  case round =>
    obtain ⟨j, hj, rfl, rfl⟩ := hrel
    have hlt : a / 2 ^ j < 4294967296 := Nat.lt_of_le_of_lt (Nat.div_le_self _ _) ha
    have hs := Go.Lib.hid (div_step a j)
    by_cases hm : i + j < 31
    · generalize hz : a / 2 ^ j = z at hs hlt
      have HZ := Go.Lib.hid hz
      clear hz
      go_wp2
      go_round
      case rel => exact ⟨j + 1, by omega, by congr 1; omega, by rw [← hs.out]; simp⟩
      case measure => simp [intOf]; omega
    · have hj2 : j = 31 - i := by omega
      generalize hz : a / 2 ^ j = z at hs hlt
      have HZ := Go.Lib.hid hz
      have HJ := Go.Lib.hid hj2
      clear hz hj2
      go_wp2
      go_ret
      exact ⟨ret_i64 (by unfold bitN; rw [← HJ.out, HZ.out]; omega), rfl⟩

/-- The reference's cut: a loop over all bits. -/
theorem refCut_in (a n : Nat) (ha : a < 4294967296) (hn : n ≤ 32) (w : World) :
    Calls Tryd.prog 28 #[.int .u32 a, .int .i64 n] w fun e w' => e = .returned (.int .u32 (cutN a n : Int)) ∧ w = w' := by
  go_enter Tryd.func28, Tryd.ntmps28
  go_wp2
  go_loop [5, 6] (fun x i => ∃ k : Nat, k ≤ 32 ∧ i = .int .i64 k ∧ x = .int .u32 (outN a n k : Int)) (fun _ i => 32 - (intOf i).toNat)
  case atStart => exact ⟨0, by omega, rfl, by rw [outN_0 a n ha]; rfl⟩
  case round =>
    obtain ⟨k, hk, rfl, rfl⟩ := hrel
    by_cases hlt : k < 32
    · have hroom := outN_room a n k ha hlt
      have hbl := bitN_lt a k
      by_cases hkn : k < n
      · have hs := Go.Lib.hid (outN_hit a n k hlt hkn)
        by_cases hb : bitN a k = 1
        · have hb2 : ((bitN a k : Int) == 1) = true := by rw [hb]; rfl
          have HB := Go.Lib.hid hb
          clear hb
          go_wp2_with (go_at_call 37; refine (refBit_in _ _ ha hlt _).mono ?_; rintro e w' ⟨rfl, rfl⟩)
          go_round
          case rel => exact ⟨k + 1, by omega, by go_num, by rw [hs.out, HB.out]; go_num⟩
          case measure => simp [intOf]; omega
        · have hb2 : ((bitN a k : Int) == 1) = false := by have : bitN a k = 0 := by omega
                                                           rw [this]; rfl
          have HB : Hid (bitN a k = 0) := Go.Lib.hid (by omega)
          clear hb
          go_wp2_with (go_at_call 37; refine (refBit_in _ _ ha hlt _).mono ?_; rintro e w' ⟨rfl, rfl⟩)
          go_round
          case rel => exact ⟨k + 1, by omega, by go_num, by rw [hs.out, HB.out, Nat.add_zero]; go_num⟩
          case measure => simp [intOf]; omega
      · have hs := Go.Lib.hid (outN_miss a n k (by omega))
        go_wp2_with (go_at_call 37; refine (refBit_in _ _ ha hlt _).mono ?_; rintro e w' ⟨rfl, rfl⟩)
        go_round
        case rel => exact ⟨k + 1, by omega, by go_num, by rw [hs.out]; go_num⟩
        case measure => simp [intOf]; omega
    · have hk2 : k = 32 := by omega
      subst hk2
      go_wp2
      go_ret
      exact ⟨ret_u32 (by rw [outN_32 a n hn]), rfl⟩

end Go.Proofs.YtgjdpmpbldofpaaDoor.Pfx
