/- Whole numbers as floats: words of 64 bits that stand for a whole number stay exact while the numbers lie below 2^53. It imports nothing of the program. -/
import GoSem.Claim
import Derived.Laws.FloatArith
import Derived.Laws.ComplexArith
namespace Go.Proofs.Ytifaclbafmpiiaa.Tal
open Ieee

/-- A datum stands for a whole number: exactly, at a place not above the unit's. -/
def Val (d : Datum) (n : Int) : Prop := ∃ s m, ∃ e : Nat, d = .number s m (-(e : Int)) ∧ (if s then -(m : Int) else (m : Int)) = n * 2 ^ e

theorem signed_zero (s : Bool) (m : Nat) (u : Nat) : signed s m u = (if s then -(m : Int) else (m : Int)) * 2 ^ u := by
  unfold signed
  cases s <;> simp [Nat.shiftLeft_eq, Int.neg_mul]
theorem val_int (n : Int) : Val (.number (n < 0) n.natAbs 0) n := by
  refine ⟨_, _, 0, rfl, ?_⟩
  by_cases h : n < 0
  · simp [h]; omega
  · simp [h]; omega
theorem val_neg {d : Datum} {n : Int} (h : Val d n) : Val d.opposite (-n) := by
  obtain ⟨s, m, e, rfl, h⟩ := h
  refine ⟨!s, m, e, rfl, ?_⟩
  rw [Int.neg_mul, ← h]
  cases s <;> simp
theorem pow_split {a b : Nat} (h : a ≤ b) : (2 : Int) ^ b = 2 ^ a * 2 ^ (b - a) := by
  rw [← Int.pow_add]; congr 1; omega
theorem val_sum {d1 d2 : Datum} {n1 n2 : Int} (h1 : Val d1 n1) (h2 : Val d2 n2) : ∃ d, d1.sum d2 = some d ∧ Val d (n1 + n2) := by
  obtain ⟨s, m, e, rfl, h1⟩ := h1
  obtain ⟨t, k, f, rfl, h2⟩ := h2
  obtain ⟨g, hg⟩ : ∃ g, g = max e f := ⟨_, rfl⟩
  have b0 : min (-(e : Int)) (-(f : Int)) = -(g : Int) := by omega
  have b1 : (-(e : Int) - -(g : Int)).toNat = g - e := by omega
  have b2 : (-(f : Int) - -(g : Int)).toNat = g - f := by omega
  have s1 : signed s m (g - e) = n1 * 2 ^ g := by rw [signed_zero, h1, Int.mul_assoc, ← pow_split (by omega)]
  have s2 : signed t k (g - f) = n2 * 2 ^ g := by rw [signed_zero, h2, Int.mul_assoc, ← pow_split (by omega)]
  refine ⟨_, rfl, ?_⟩
  simp only [b0, b1, b2, s1, s2]
  rw [← Int.add_mul]
  refine ⟨_, _, g, rfl, ?_⟩
  generalize (n1 + n2) * 2 ^ g = z
  by_cases h0 : z = 0
  · subst h0; simp
  · rw [if_neg h0]
    by_cases hz : z < 0
    · simp [hz]; omega
    · simp [hz]; omega
theorem val_product {d1 d2 : Datum} {n1 n2 : Int} (h1 : Val d1 n1) (h2 : Val d2 n2) : ∃ d, d1.product d2 = some d ∧ Val d (n1 * n2) := by
  obtain ⟨s, m, e, rfl, h1⟩ := h1
  obtain ⟨t, k, f, rfl, h2⟩ := h2
  refine ⟨_, rfl, s ^^ t, m * k, e + f, by congr 1; omega, ?_⟩
  have h3 : n1 * n2 * 2 ^ (e + f) = (n1 * 2 ^ e) * (n2 * 2 ^ f) := by rw [Int.pow_add]; grind
  rw [h3, ← h1, ← h2]
  cases s <;> cases t <;> simp [Int.neg_mul, Int.mul_neg]
theorem val_mag {s : Bool} {m e : Nat} {n : Int} (h : (if s then -(m : Int) else (m : Int)) = n * 2 ^ e) : m = n.natAbs * 2 ^ e := by
  have h2 : (n * 2 ^ e).natAbs = n.natAbs * 2 ^ e := by rw [Int.natAbs_mul, Int.natAbs_pow]; rfl
  rw [← h2, ← h]
  cases s <;> simp
theorem val_sign {s : Bool} {m e : Nat} {n : Int} (h : (if s then -(m : Int) else (m : Int)) = n * 2 ^ e) (u : Nat) (hu : u = n.natAbs * 2 ^ e) (k : Nat) : (if s then -((n.natAbs * 2 ^ k : Nat) : Int) else ((n.natAbs * 2 ^ k : Nat) : Int)) = n * 2 ^ k := by
  have hp : (0 : Int) < 2 ^ e := Int.pow_pos (by decide)
  have hm := val_mag h
  cases s
  · simp only [Bool.false_eq_true, if_false] at h ⊢
    have h0 : 0 ≤ n := by
      rcases Int.lt_or_le n 0 with hn | hn
      · have : n * 2 ^ e < 0 := Int.mul_neg_of_neg_of_pos hn hp
        omega
      · exact hn
    rw [Int.natCast_mul, Int.natAbs_of_nonneg h0, Int.natCast_pow]; rfl
  · simp only [if_true] at h ⊢
    have h0 : n ≤ 0 := by
      rcases Int.lt_or_le 0 n with hn | hn
      · have : 0 < n * 2 ^ e := Int.mul_pos hn hp
        omega
      · exact hn
    rw [Int.natCast_mul, Int.ofNat_natAbs_of_nonpos h0, Int.natCast_pow]
    grind
theorem val_toInt {d : Datum} {n : Int} (h : Val d n) : d.toInt .zero = some n := by
  obtain ⟨s, m, e, rfl, h⟩ := h
  have hm := val_mag h
  have hsig := val_sign h _ rfl 0
  have hcut : Toward.zero.cut s (m <<< (-(e : Int)).toNat) (- -(e : Int)).toNat = n.natAbs := by
    have e1 : (-(e : Int)).toNat = 0 := by omega
    have e2 : (- -(e : Int)).toNat = e := by omega
    rw [e1, e2, Nat.shiftLeft_zero]
    unfold Toward.cut
    simp only [Bool.toNat_false, Nat.add_zero, Nat.one_shiftLeft]
    by_cases h0 : n.natAbs = 0
    · rw [hm, h0]; simp
    · have hl : e ≤ m.log2 := by
        rw [Nat.le_log2 (by rw [hm]; exact Nat.ne_of_gt (Nat.mul_pos (by omega) (Nat.two_pow_pos e))), hm]
        exact Nat.le_mul_of_pos_left _ (by omega)
      rw [Nat.min_eq_left (by omega), hm]
      exact Nat.mul_div_cancel _ (Nat.two_pow_pos e)
  unfold Datum.toInt Datum.integral
  simp only [hcut]
  rw [signed_zero]
  congr 1
  simpa using hsig

/-- What is written of a whole number below 2^53 is read as it. -/
theorem cut_zero (s : Bool) (k : Nat) : Toward.even.cut s k 0 = k := by
  unfold Toward.cut
  simp [Nat.mod_one]
theorem cut_exact (s : Bool) (k drop : Nat) (hk : 0 < k) : Toward.even.cut s (k * 2 ^ drop) drop = k := by
  have hl : drop ≤ (k * 2 ^ drop).log2 := by
    rw [Nat.le_log2 (Nat.ne_of_gt (Nat.mul_pos hk (Nat.two_pow_pos _)))]
    exact Nat.le_mul_of_pos_left _ hk
  unfold Toward.cut
  simp only [Nat.min_eq_left (show drop ≤ (k * 2 ^ drop).log2 + 2 by omega), Nat.one_shiftLeft, Nat.mul_mod_left, Nat.mul_div_cancel _ (Nat.two_pow_pos drop)]
  have := Nat.two_pow_pos drop
  simp
theorem read_word (s : Bool) (L K : Nat) (hL : L ≤ 52) (h1 : 4503599627370496 ≤ K) (h2 : K < 9007199254740992) : double.read (double.word s ((L + 1022) * 4503599627370496 + K)) = .number s K (-((52 - L : Nat) : Int)) := by
  have w0 : double.signWeight = 9223372036854775808 := by decide
  have w1 : double.binade = 4503599627370496 := by decide
  have w2 : double.infRung = 9218868437227405312 := by decide
  have w3 : double.leastPlace = -1074 := by decide
  obtain ⟨R, hR⟩ : ∃ R, R = (L + 1022) * 4503599627370496 + K := ⟨_, rfl⟩
  rw [← hR]
  have hb : R < 9218868437227405312 ∧ 4503599627370496 ≤ R := by omega
  have e0 : double.word s R % 9223372036854775808 = R := by
    unfold Format.word; rw [w0]
    cases s
    · show R % _ = R; omega
    · show (_ + R) % _ = R; omega
  have e1 : (double.word s R / 9223372036854775808 % 2 == 1) = s := by
    unfold Format.word; rw [w0]
    cases s
    · show (R / _ % 2 == 1) = false
      rw [show R / 9223372036854775808 % 2 = 0 by omega]; rfl
    · show ((9223372036854775808 + R) / _ % 2 == 1) = true
      rw [show (9223372036854775808 + R) / 9223372036854775808 % 2 = 1 by omega]; rfl
  have e2 : 4503599627370496 + R % 4503599627370496 = K := by omega
  have e3 : R / 4503599627370496 - 1 = L + 1022 := by omega
  have e4 : (-1074 : Int) + ((L + 1022 : Nat) : Int) = -((52 - L : Nat) : Int) := by omega
  unfold Format.read
  simp only [w0, w1, w2, w3, e0, e1, e2, e3, e4]
  rw [if_neg (by omega), if_pos (by omega)]
theorem zero_form (s : Bool) (e : Nat) : (if s then -((0 : Nat) : Int) else ((0 : Nat) : Int)) = 0 * 2 ^ e := by rw [Int.zero_mul]; cases s <;> rfl
theorem read_zero (s : Bool) : double.read (double.word s 0) = .number s 0 (-((1074 : Nat) : Int)) := by cases s <;> decide
theorem val_write {d : Datum} {n : Int} (h : Val d n) (hn : n.natAbs < 9007199254740992) : Val (double.read (double.write d)) n := by
  obtain ⟨s, m, e, rfl, h⟩ := h
  have hm := val_mag h
  obtain ⟨a, ha⟩ : ∃ a, a = n.natAbs := ⟨_, rfl⟩
  rw [← ha] at hm hn
  unfold Format.write
  simp only
  unfold Format.nearest
  by_cases h0 : m = 0
  · have hz : n = 0 := by
      have : a = 0 := by
        rcases Nat.eq_zero_or_pos a with hz | hz
        · exact hz
        · have := Nat.mul_pos hz (Nat.two_pow_pos e); omega
      omega
    rw [if_pos h0, read_zero]
    exact ⟨s, 0, 1074, rfl, by subst hz; exact zero_form s 1074⟩
  · have ha0 : 0 < a := by
      rcases Nat.eq_zero_or_pos a with hz | hz
      · rw [hz] at hm; omega
      · exact hz
    rw [if_neg h0]
    obtain ⟨L, hL⟩ : ∃ L, L = a.log2 := ⟨_, rfl⟩
    have hL52 : L ≤ 52 := by
      rw [hL]
      have : a.log2 < 53 := (Nat.log2_lt (by omega)).2 hn
      omega
    have hlm : m.log2 = L + e := by
      rw [hm, hL]
      have hz : a * 2 ^ e ≠ 0 := Nat.ne_of_gt (Nat.mul_pos ha0 (Nat.two_pow_pos _))
      rw [Nat.log2_eq_iff hz]
      constructor
      · rw [Nat.pow_add]; exact Nat.mul_le_mul_right _ (Nat.log2_self_le (by omega))
      · rw [show a.log2 + e + 1 = (a.log2 + 1) + e by omega, Nat.pow_add]
        exact Nat.mul_lt_mul_of_pos_right Nat.lt_log2_self (Nat.two_pow_pos _)
    have w3 : double.leastPlace = -1074 := by decide
    have w4 : double.fractionBits = 52 := rfl
    have w1 : double.binade = 4503599627370496 := by decide
    have w2 : double.infRung = 9218868437227405312 := by decide
    have hlast : max (-(e : Int) + (m.log2 : Int) - (double.fractionBits : Int)) double.leastPlace = -((52 - L : Nat) : Int) := by
      rw [hlm, w3, w4]; omega
    simp only [hlast]
    have hkept : Toward.even.cut s (m <<< (-(e : Int) - -((52 - L : Nat) : Int)).toNat) (-((52 - L : Nat) : Int) - -(e : Int)).toNat = a * 2 ^ (52 - L) := by
      by_cases hle : e ≤ 52 - L
      · have e1 : (-(e : Int) - -((52 - L : Nat) : Int)).toNat = 52 - L - e := by omega
        have e2 : (-((52 - L : Nat) : Int) - -(e : Int)).toNat = 0 := by omega
        rw [e1, e2, cut_zero, Nat.shiftLeft_eq, hm, Nat.mul_assoc, ← Nat.pow_add]
        congr 2; omega
      · have e1 : (-(e : Int) - -((52 - L : Nat) : Int)).toNat = 0 := by omega
        have e2 : (-((52 - L : Nat) : Int) - -(e : Int)).toNat = e - (52 - L) := by omega
        have e3 : m = a * 2 ^ (52 - L) * 2 ^ (e - (52 - L)) := by
          rw [hm, Nat.mul_assoc, ← Nat.pow_add]; congr 2; omega
        rw [e1, e2, Nat.shiftLeft_zero, e3]
        exact cut_exact s _ _ (Nat.mul_pos ha0 (Nat.two_pow_pos _))
    simp only [hkept]
    have k1 : 4503599627370496 ≤ a * 2 ^ (52 - L) := by
      have h1 : 2 ^ L ≤ a := by rw [hL]; exact Nat.log2_self_le (by omega)
      have h2 : 2 ^ L * 2 ^ (52 - L) = 4503599627370496 := by rw [← Nat.pow_add, show L + (52 - L) = 52 by omega]
      rw [← h2]
      exact Nat.mul_le_mul_right _ h1
    have k2 : a * 2 ^ (52 - L) < 9007199254740992 := by
      have h1 : a < 2 ^ (L + 1) := by rw [hL]; exact Nat.lt_log2_self
      have h2 : 2 ^ (L + 1) * 2 ^ (52 - L) = 9007199254740992 := by rw [← Nat.pow_add, show L + 1 + (52 - L) = 53 by omega]
      rw [← h2]
      exact Nat.mul_lt_mul_of_pos_right h1 (Nat.two_pow_pos _)
    have hsg := val_sign h _ rfl (52 - L)
    rw [← ha] at hsg
    generalize a * 2 ^ (52 - L) = K at hsg k1 k2 ⊢
    have hr : min ((-((52 - L : Nat) : Int) - double.leastPlace).toNat * double.binade + K) double.infRung = (L + 1022) * 4503599627370496 + K := by
      rw [w1, w2, w3]
      have : (-((52 - L : Nat) : Int) - -1074).toNat = L + 1022 := by omega
      rw [this]
      exact Nat.min_eq_left (by omega)
    rw [hr, read_word s L K hL52 k1 k2]
    exact ⟨s, K, 52 - L, rfl, hsg⟩

/-- A word stands for a whole number. -/
def FV (x : Nat) (n : Int) : Prop := Val (FloatKind.f64.format.read x) n
theorem fv_int (n : Int) (h : n.natAbs < 9007199254740992) : FV (floatOfInt .f64 n) n := val_write (val_int n) h
theorem fv_add {x y : Nat} {n k : Int} (hx : FV x n) (hy : FV y k) (h : (n + k).natAbs < 9007199254740992) : ∃ z, floatBits .add .f64 x y = some z ∧ FV z (n + k) := by
  obtain ⟨d, h1, h2⟩ := val_sum hx hy
  exact ⟨_, by unfold floatBits Format.add; rw [h1]; rfl, val_write h2 h⟩
theorem fv_sub {x y : Nat} {n k : Int} (hx : FV x n) (hy : FV y k) (h : (n - k).natAbs < 9007199254740992) : ∃ z, floatBits .sub .f64 x y = some z ∧ FV z (n - k) := by
  obtain ⟨d, h1, h2⟩ := val_sum hx (val_neg hy)
  exact ⟨_, by unfold floatBits Format.sub; rw [h1]; rfl, val_write h2 h⟩
theorem fv_mul {x y : Nat} {n k : Int} (hx : FV x n) (hy : FV y k) (h : (n * k).natAbs < 9007199254740992) : ∃ z, floatBits .mul .f64 x y = some z ∧ FV z (n * k) := by
  obtain ⟨d, h1, h2⟩ := val_product hx hy
  exact ⟨_, by unfold floatBits Format.mul; rw [h1]; rfl, val_write h2 h⟩
theorem fv_neg {x : Nat} {n : Int} (hx : FV x n) : FV (Op.negFloat .f64 x) (-n) := by
  have e : FloatKind.f64.format.read (Op.negFloat .f64 x) = (FloatKind.f64.format.read x).opposite := by
    have w0 : double.signWeight = 2 ^ 63 := by decide
    have e0 : (x ^^^ 2 ^ 63) % 2 ^ 63 = x % 2 ^ 63 := by rw [Nat.xor_mod_two_pow]; simp
    have e1 : ((x ^^^ 2 ^ 63) / 2 ^ 63 % 2 == 1) = !(x / 2 ^ 63 % 2 == 1) := by
      rw [Nat.xor_div_two_pow, Nat.div_self (Nat.two_pow_pos 63)]
      generalize x / 2 ^ 63 = z
      have h1 := Nat.xor_mod_two_pow (a := z) (b := 1) (n := 1)
      have h2 : z % 2 = 0 ∨ z % 2 = 1 := by omega
      simp only [Nat.pow_one] at h1
      rw [h1]
      rcases h2 with h2 | h2 <;> rw [h2] <;> rfl
    show double.read (x ^^^ 2 ^ 63) = (double.read x).opposite
    unfold Format.read
    simp only [w0, e0, e1]
    split
    · rfl
    · split
      · rfl
      · split <;> rfl
  unfold FV
  rw [e]
  exact val_neg hx
theorem fv_toInt {x : Nat} {n : Int} (hx : FV x n) (h : n.natAbs < 9007199254740992) : floatToIntVal .f64 x .i64 = some n := by
  have e : (FloatKind.f64.decode x).toInt .zero = some n := val_toInt hx
  unfold floatToIntVal
  rw [e]
  simp only
  have b1 : IntKind.i64.min = -9223372036854775808 := by decide
  have b2 : IntKind.i64.max = 9223372036854775807 := by decide
  rw [b1, b2, if_pos (by omega)]
end Go.Proofs.Ytifaclbafmpiiaa.Tal
