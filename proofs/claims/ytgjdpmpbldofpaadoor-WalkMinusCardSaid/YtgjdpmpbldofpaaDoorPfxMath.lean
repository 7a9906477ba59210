/- Plain mathematics of prefixes: addresses as numbers below 2^32, their first bits, masks. It imports nothing of the program. -/
import Derived.Laws.BitsAllLaws
namespace Go.Proofs.YtgjdpmpbldofpaaDoor.Pfx

/-- Bit i of a, counted from the highest one. -/
def bitN (a i : Nat) : Nat := a / 2 ^ (31 - i) % 2
/-- The first n bits of a. -/
def cutN (a n : Nat) : Nat := a / 2 ^ (32 - n) * 2 ^ (32 - n)
/-- The number whose highest n bits are set. -/
def maskN (n : Nat) : Nat := 4294967296 - 2 ^ (32 - n)
/-- n within 0 to 32. -/
def clampN (n : Int) : Nat := if n < 0 then 0 else if 32 < n then 32 else n.toNat

theorem clampN_le (n : Int) : clampN n ≤ 32 := by unfold clampN; split <;> (try split) <;> omega
theorem clampN_in (n : Nat) (h : n ≤ 32) : clampN (n : Int) = n := by unfold clampN; rw [if_neg (by omega), if_neg (by omega)]; omega

theorem pow_le (k : Nat) (h : k ≤ 32) : 2 ^ k ≤ 4294967296 := by
  have := Nat.pow_le_pow_right (show 0 < 2 by decide) h
  simpa using this
theorem pow_pos (k : Nat) : 0 < 2 ^ k := Nat.pow_pos (by decide)

theorem maskN_lt (n : Nat) : maskN n < 4294967296 := by unfold maskN; have := pow_pos (32 - n); omega
theorem cutN_le (a n : Nat) : cutN a n ≤ a := Nat.div_mul_le_self _ _
theorem bitN_lt (a i : Nat) : bitN a i < 2 := Nat.mod_lt _ (by decide)
theorem cutN_32 (a : Nat) : cutN a 32 = a := by unfold cutN; simp
theorem cutN_0 (a : Nat) (h : a < 4294967296) : cutN a 0 = 0 := by unfold cutN; rw [Nat.div_eq_of_lt (by simpa using h), Nat.zero_mul]

/-- The shift in Mask, as the walk spells it. -/
theorem mask_shift (n : Nat) (h : n ≤ 32) : (4294967295 * 2 ^ (32 - n) % 4294967296 : Int) = (maskN n : Int) := by
  have hp := pow_le (32 - n) (by omega)
  have h0 := pow_pos (32 - n)
  unfold maskN
  have e2 : (4294967295 * 2 ^ (32 - n) : Int) = (4294967296 - (2 ^ (32 - n) : Nat)) + 4294967296 * (((2 ^ (32 - n) : Nat) : Int) - 1) := by push_cast; omega
  rw [e2, Int.add_mul_emod_self_left]
  rw [Int.emod_eq_of_lt (by omega) (by omega)]
  omega

theorem testBit_mask (n i : Nat) (h : n ≤ 32) : (maskN n).testBit i = (decide (i < 32) && decide (32 - n ≤ i)) := by
  unfold maskN
  have h0 := pow_pos (32 - n)
  have e : 4294967296 - 2 ^ (32 - n) = 2 ^ 32 - ((2 ^ (32 - n) - 1) + 1) := by
    have : (2 : Nat) ^ 32 = 4294967296 := by decide
    omega
  rw [e, Nat.testBit_two_pow_sub_succ (by have := pow_le (32 - n) (by omega); have : (2 : Nat) ^ 32 = 4294967296 := by decide
                                          omega), Nat.testBit_two_pow_sub_one]
  congr 1
  rw [← decide_not]
  exact decide_eq_decide.2 (by omega)

theorem testBit_cut (a n i : Nat) : (cutN a n).testBit i = (decide (32 - n ≤ i) && a.testBit i) := by
  unfold cutN
  rw [Nat.testBit_mul_two_pow]
  by_cases h : 32 - n ≤ i
  · simp [h, Nat.testBit_div_two_pow, Nat.sub_add_cancel h]
  · simp [h]

theorem testBit_lt {a i : Nat} (h : a < 4294967296) (hi : a.testBit i = true) : i < 32 := by
  rcases Nat.lt_or_ge i 32 with h1 | h1
  · exact h1
  · rw [Nat.testBit_lt_two_pow (Nat.lt_of_lt_of_le (show a < 2 ^ 32 from h) (Nat.pow_le_pow_right (by decide) h1))] at hi; cases hi

theorem and_mask (a n : Nat) (ha : a < 4294967296) (hn : n ≤ 32) : a &&& maskN n = cutN a n := by
  apply Nat.eq_of_testBit_eq
  intro i
  rw [Nat.testBit_and, testBit_mask n i hn, testBit_cut]
  by_cases hi : i < 32
  · simp [hi, Bool.and_comm]
  · have : a.testBit i = false := by
      cases h : a.testBit i
      · rfl
      · exact absurd (testBit_lt ha h) hi
    simp [this]

theorem andNot_mask (a n : Nat) (hn : n ≤ 32) : a &&& (4294967295 - maskN n) = a % 2 ^ (32 - n) := by
  have e : 4294967295 - maskN n = 2 ^ (32 - n) - 1 := by
    unfold maskN
    have := pow_le (32 - n) (by omega)
    have := pow_pos (32 - n)
    omega
  rw [e, Nat.and_two_pow_sub_one_eq_mod]

theorem bits_and_mask (a n : Nat) (ha : a < 4294967296) (hn : n ≤ 32) : bits .and .u32 (a : Int) (maskN n : Int) = (cutN a n : Int) := by
  rw [u32_and_nat a (maskN n) ha (maskN_lt n), and_mask a n ha hn]
theorem bits_andNot_mask (a n : Nat) (ha : a < 4294967296) (hn : n ≤ 32) : bits .andNot .u32 (a : Int) (maskN n : Int) = ((a % 2 ^ (32 - n) : Nat) : Int) := by
  rw [u32_andNot_nat a (maskN n) ha (maskN_lt n), andNot_mask a n hn]

theorem cut_iff_mod (a n : Nat) : cutN a n = a ↔ a % 2 ^ (32 - n) = 0 := by
  unfold cutN
  have := Nat.div_add_mod a (2 ^ (32 - n))
  rw [Nat.mul_comm] at this
  omega

/-- The bit as 'prefix.Bit' reckons it. -/
theorem bit_and (a i : Nat) (ha : a < 4294967296) : bits .and .u32 ((a : Int) / 2 ^ (31 - i)) 1 = (bitN a i : Int) := by
  have e2 : ((a : Int) / 2 ^ (31 - i)) = ((a / 2 ^ (31 - i) : Nat) : Int) := by push_cast; rfl
  rw [e2]
  have h := u32_and_nat (a / 2 ^ (31 - i)) 1 (Nat.lt_of_le_of_lt (Nat.div_le_self _ _) ha) (by decide)
  rw [show ((1 : Nat) : Int) = 1 from rfl] at h
  rw [h, Nat.and_one_is_mod]; rfl

/-- What 'ref.Cut' has gathered before round k. -/
def outN (a n k : Nat) : Nat := if k ≤ n then a / 2 ^ (32 - k) else a / 2 ^ (32 - n) * 2 ^ (k - n)
theorem outN_0 (a n : Nat) (h : a < 4294967296) : outN a n 0 = 0 := by unfold outN; rw [if_pos (by omega)]; exact Nat.div_eq_of_lt (by simpa using h)
theorem outN_32 (a n : Nat) (h : n ≤ 32) : outN a n 32 = cutN a n := by
  unfold outN cutN
  split
  · have : n = 32 := by omega
    subst this; simp
  · rfl
theorem outN_hit (a n k : Nat) (hk : k < 32) (hkn : k < n) : outN a n (k + 1) = outN a n k * 2 + bitN a k := by
  unfold outN bitN
  rw [if_pos (by omega), if_pos (by omega)]
  have e : 32 - k = (32 - (k + 1)) + 1 := by omega
  rw [e, Nat.pow_succ, ← Nat.div_div_eq_div_mul]
  have : 31 - k = 32 - (k + 1) := by omega
  rw [this]
  omega
theorem outN_miss (a n k : Nat) (hkn : n ≤ k) : outN a n (k + 1) = outN a n k * 2 := by
  unfold outN
  rw [if_neg (by omega)]
  have e : k + 1 - n = (k - n) + 1 := by omega
  split
  · have : k = n := by omega
    subst this
    simp
  · rw [e, Nat.pow_succ, Nat.mul_assoc]
theorem outN_lt (a n k : Nat) (hk : k ≤ 32) : outN a n k * 2 ^ (32 - k) ≤ a := by
  unfold outN
  split
  · exact Nat.div_mul_le_self _ _
  · rw [Nat.mul_assoc, ← Nat.pow_add, show k - n + (32 - k) = 32 - n by omega]; exact Nat.div_mul_le_self _ _
theorem outN_room (a n k : Nat) (h : a < 4294967296) (hk : k < 32) : outN a n k * 2 + 1 < 4294967296 := by
  have h1 := outN_lt a n k (by omega)
  have e : 32 - k = (31 - k) + 1 := by omega
  rw [e, Nat.pow_succ] at h1
  have h2 := pow_pos (31 - k)
  have h3 : outN a n k * 2 * 1 ≤ outN a n k * 2 * 2 ^ (31 - k) := Nat.mul_le_mul_left _ h2
  have h4 : outN a n k * 2 * 2 ^ (31 - k) ≤ a := by rw [Nat.mul_assoc, Nat.mul_comm 2]; exact h1
  omega

theorem div_step (a j : Nat) : a / 2 ^ j / 2 = a / 2 ^ (j + 1) := by rw [Nat.pow_succ, Nat.div_div_eq_div_mul]

/-- The upper half's address. -/
def highN (pa k : Nat) : Nat := pa + 2 ^ (31 - k)
theorem pow_split (k : Nat) (hk : k < 32) : 2 ^ (32 - k) = 2 ^ (31 - k) * 2 := by
  have e : 32 - k = (31 - k) + 1 := by omega
  rw [e, Nat.pow_succ]
theorem cut_form {a k : Nat} (h : cutN a k = a) : a = 2 ^ (32 - k) * (a / 2 ^ (32 - k)) := by
  unfold cutN at h; rw [Nat.mul_comm]; exact h.symm
theorem high_or (pa k : Nat) (hk : k < 32) (h : cutN pa k = pa) : pa ||| 2 ^ (31 - k) = highN pa k := by
  have h1 := cut_form h
  have h2 : 2 ^ (31 - k) < 2 ^ (32 - k) := Nat.pow_lt_pow_right (by decide) (by omega)
  unfold highN
  rw [h1, Nat.two_pow_add_eq_or_of_lt h2]
theorem high_lt (pa k : Nat) (hk : k < 32) (hpa : pa < 4294967296) (h : cutN pa k = pa) : highN pa k < 4294967296 := by
  have h1 := cut_form h
  have h2 := pow_split k hk
  have h3 := pow_pos (31 - k)
  have h4 : 4294967296 = 2 ^ (32 - k) * 2 ^ k := by rw [← Nat.pow_add, show 32 - k + k = 32 by omega]
  have h5 : pa / 2 ^ (32 - k) < 2 ^ k := by
    apply Nat.div_lt_of_lt_mul; rw [← h4]; exact hpa
  have h6 : 2 ^ (32 - k) * (pa / 2 ^ (32 - k) + 1) ≤ 2 ^ (32 - k) * 2 ^ k := Nat.mul_le_mul_left _ h5
  rw [← h4, Nat.mul_add, ← h1] at h6
  unfold highN
  omega
theorem bits_high (pa k : Nat) (hpa : pa < 4294967296) (hk : k < 32) (h : cutN pa k = pa) : bits .or .u32 (pa : Int) (2 ^ (31 - k) % 4294967296) = (highN pa k : Int) := by
  have hl : 2 ^ (31 - k) < 4294967296 := Nat.lt_of_lt_of_le (Nat.pow_lt_pow_right (by decide) (show 31 - k < 32 by omega)) (Nat.le_refl _)
  have e : ((2 : Int) ^ (31 - k) % 4294967296) = ((2 ^ (31 - k) : Nat) : Int) := by
    have e0 : ((2 : Int) ^ (31 - k)) = ((2 ^ (31 - k) : Nat) : Int) := by push_cast; rfl
    rw [e0, Int.emod_eq_of_lt (Int.natCast_nonneg _) (by omega)]
  rw [e, u32_or_nat pa _ hpa hl, high_or pa k hk h]

/-- The halves are cut at one bit more. -/
theorem low_cut (pa k : Nat) (hk : k < 32) (h : cutN pa k = pa) : cutN pa (k + 1) = pa := by
  rw [cut_iff_mod] at h ⊢
  rw [show 32 - (k + 1) = 31 - k by omega]
  rw [pow_split k hk] at h
  exact Nat.mod_eq_zero_of_dvd (Nat.dvd_trans (Nat.dvd_mul_right _ _) (Nat.dvd_of_mod_eq_zero h))
theorem high_cut (pa k : Nat) (hk : k < 32) (h : cutN pa k = pa) : cutN (highN pa k) (k + 1) = highN pa k := by
  have h1 := low_cut pa k hk h
  rw [cut_iff_mod, show 32 - (k + 1) = 31 - k by omega] at h1 ⊢
  unfold highN
  rw [Nat.add_mod_right]; exact h1
theorem cut_step (a k : Nat) (hk : k < 32) : cutN a (k + 1) = cutN a k ∨ cutN a (k + 1) = cutN a k + 2 ^ (31 - k) := by
  unfold cutN
  rw [show 32 - (k + 1) = 31 - k by omega, pow_split k hk, ← Nat.div_div_eq_div_mul]
  generalize 2 ^ (31 - k) = t
  generalize a / t = z
  rcases Nat.mod_two_eq_zero_or_one z with e | e
  · left
    rw [Nat.mul_comm t 2, ← Nat.mul_assoc]
    congr 1; omega
  · right
    rw [Nat.mul_comm t 2, ← Nat.mul_assoc]
    have : z = z / 2 * 2 + 1 := by omega
    rw [← Nat.succ_mul]
    congr 1
theorem cut_cut (a k : Nat) (hk : k < 32) : cutN (cutN a (k + 1)) k = cutN a k := by
  unfold cutN
  rw [show 32 - (k + 1) = 31 - k by omega, pow_split k hk, ← Nat.div_div_eq_div_mul, ← Nat.div_div_eq_div_mul, Nat.mul_div_cancel _ (pow_pos _)]
/-- Whether an address lies in a prefix: in one half or in the other, never in both. -/
theorem halves_cover (pa k a : Nat) (hk : k < 32) (h : cutN pa k = pa) : cutN a k = pa ↔ (cutN a (k + 1) = pa ∨ cutN a (k + 1) = highN pa k) := by
  constructor
  · intro e
    rcases cut_step a k hk with s | s
    · left; rw [s, e]
    · right; rw [s, e]; rfl
  · rintro (e | e)
    · rw [← cut_cut a k hk, e, h]
    · rw [← cut_cut a k hk, e]
      unfold highN
      have h1 := cut_form h
      have h3 := pow_pos (31 - k)
      unfold cutN
      rw [pow_split k hk] at h1 ⊢
      generalize 2 ^ (31 - k) = t at *
      generalize pa / (t * 2) = z at *
      subst h1
      rw [Nat.mul_add_div (by omega), Nat.div_eq_of_lt (by omega), Nat.add_zero, Nat.mul_comm]
theorem high_ne (pa k : Nat) : pa < highN pa k := by unfold highN; have := pow_pos (31 - k); omega

end Go.Proofs.YtgjdpmpbldofpaaDoor.Pfx
