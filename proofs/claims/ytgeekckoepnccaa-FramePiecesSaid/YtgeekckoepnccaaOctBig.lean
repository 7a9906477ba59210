/- The reference's Big: a number's lowest bytes. -/
import Derived.Test.YtgeekckoepnccaaOctNew
namespace Go.Proofs.Ytgeekckoepnccaa.Oct
open Go.RowKit Mem Ahead

/-- The lowest k bytes of n, the highest one first. -/
def big (n : Nat) : Nat → List Nat
  | 0 => []
  | k + 1 => n / 256 ^ k % 256 :: big n k
theorem big_len (n : Nat) : ∀ k, (big n k).length = k
  | 0 => rfl
  | k + 1 => by simp [big, big_len n k]
theorem big_small (n : Nat) : ∀ k, Small (big n k)
  | 0 => small_nil
  | k + 1 => fun x hx => by
    simp only [big, List.mem_cons] at hx
    rcases hx with rfl | hx
    · omega
    · exact big_small n k x hx
theorem own_one8 {w : World} {base : Nat} (x : Value) (hb : base ≤ w.heap.size) : (w.alloc (.cells #[x] 5)).ownsRow base 5 1 (.slice (some ⟨w.heap.size, 0, none⟩) 1 1) 1 [x] :=
  ⟨rfl, .inr ⟨w.heap.size, 1, #[x], rfl, hb, heap_alloc_new _ _, Nat.le_refl _, by decide, rfl, rfl⟩⟩
set_option maxHeartbeats 1000000 in
theorem big_any (n k : Nat) (w : World) (hn : n < 18446744073709551616) (hk : k ≤ 4) : Calls Try.prog 30 #[.int .u64 n, .int .i64 k] w (Gives8 (big n k) w) := by
  obtain ⟨i0, E0⟩ := elem8
  have h0 : (w.alloc (.cells #[] 5)).ownsRow w.heap.size 5 1 (.slice (some ⟨w.heap.size, 0, none⟩) 0 0) 0 (cells8 []) := own_blk (Nat.le_refl _) (heap_alloc_new _ _)
  go_enter Try.func30, Try.ntmps30
  go_wp2
  go_loopw [0, 5, 6] (fun v0 v5 v6 wx => ∃ (j m : Nat) (A : Option Addr) (c : Nat), j ≤ k ∧ v6 = .int .i64 j ∧ Hid (m = n / 256 ^ j) ∧ m < 18446744073709551616 ∧ v0 = .int .u64 m ∧ v5 = .slice A j c ∧ Hid (wx.ownsRow w.heap.size 5 1 (.slice A j c) j (cells8 (big n j))) ∧ Hid (Below w.heap.size w wx)) (fun _ _ v6 _ => k - (intOf v6).toNat)
  case atStart => exact ⟨0, n, _, 0, Nat.zero_le _, rfl, Go.Lib.hid (by simp), hn, rfl, rfl, Go.Lib.hid h0, Go.Lib.hid ((Below.refl _ _).alloc (Nat.le_refl _) _)⟩
  case round =>
    obtain ⟨j, m, A, c, hj, rfl, hm, hm2, rfl, rfl, hown, hb⟩ := hrel
    by_cases hlt : j < k
    · have z1 : (j : Int) < (k : Int) := by omega
      have HN := Go.Lib.hid (own_one8 (w := wr) (base := w.heap.size) (.int .u8 ((m % 256 : Nat) : Int)) hb.out.size)
      have HR := Go.Lib.hid ((Row.of_own hown.out).keep ((Below.refl _ wr).alloc (Nat.le_refl _) (.cells #[.int .u8 ((m % 256 : Nat) : Int)] 5)))
      have hd : m / 256 < 18446744073709551616 := by omega
      have hb1 := (Below.refl _ wr).alloc (Nat.le_refl _) (.cells #[.int .u8 ((m % 256 : Nat) : Int)] 5)
      have HB2 := Go.Lib.hid (hb.out.trans (hb1.mono hb.out.size))
      clear hb1
      have hs : w.heap.size ≤ wr.heap.size := hb.out.size
      go_wp2_with (at_builtin; refine wpList_append_row rfl (.tmp 16) (.tmp 17) rfl E0 w.heap.size _ 1 _ rfl HN.out _ j _ rfl HR.out (ones8 _) (by unfold maxLen; omega) (by omega) (by simp; omega) (j + 1) (Nat.add_comm 1 j) ?_; intro A1 c1 w1 hown1 hg1 hat1 hb1; have HO := Go.Lib.hid hown1; have HB1 := Go.Lib.hid hb1; clear hown1 hg1 hat1 hb1)
      go_roundw
      case rel => exact ⟨j + 1, m / 256, A1, c1, hlt, by go_num, Go.Lib.hid (by rw [hm.out, Nat.pow_succ, Nat.div_div_eq_div_mul]), hd, by go_num, rfl, Go.Lib.hid (by have := HO.out; rw [hm.out] at this; exact this), Go.Lib.hid (HB2.out.trans (HB1.out))⟩
      case measure => simp [intOf]; omega
    · obtain rfl : j = k := by omega
      go_wp2
      go_ret
      exact ⟨A, c, by rw [big_len]; rfl, by rw [big_len]; exact hown.out, hb.out⟩
end Go.Proofs.Ytgeekckoepnccaa.Oct
