/- The contract of Common, and its mathematics. -/
import Derived.Test.YtmdfihmmencdoaaDoorApartWalk
import Derived.Test.YtmdfihmmencdoaaDoorPfxHalves
namespace Go.Proofs.YtmdfihmmencdoaaDoor.Pfx
open Go.RowKit Go.Sort

/-- How many bits two addresses have alike from the highest one on. -/
def alikeN (a b : Nat) : Nat := 32 - Lib.bitLen (a ^^^ b)
theorem alike_le (a b : Nat) : alikeN a b ≤ 32 := by unfold alikeN; omega
theorem xor_lt (a b : Nat) (ha : a < 4294967296) (hb : b < 4294967296) : a ^^^ b < 4294967296 := Nat.xor_lt_two_pow (n := 32) (by omega) (by omega)
theorem cut_eq_iff (a b j : Nat) : cutN a j = cutN b j ↔ a / 2 ^ (32 - j) = b / 2 ^ (32 - j) := by
  unfold cutN
  exact ⟨fun h => Nat.eq_of_mul_eq_mul_right (pow_pos _) h, fun h => by rw [h]⟩
theorem xor_div (a b j : Nat) : (a ^^^ b) / 2 ^ j = a / 2 ^ j ^^^ b / 2 ^ j := by
  apply Nat.eq_of_testBit_eq
  intro i
  simp [Nat.testBit_div_two_pow, Nat.testBit_xor]
theorem xor_zero {a b : Nat} : a ^^^ b = 0 ↔ a = b := by
  constructor
  · intro h
    apply Nat.eq_of_testBit_eq
    intro i
    have h2 := congrArg (·.testBit i) h
    simp only [Nat.testBit_xor, Nat.zero_testBit] at h2
    revert h2
    cases a.testBit i <;> cases b.testBit i <;> simp
  · rintro rfl; exact Nat.xor_self a
theorem alike_iff (a b j : Nat) (ha : a < 4294967296) (hb : b < 4294967296) (hj : j ≤ 32) : j ≤ alikeN a b ↔ cutN a j = cutN b j := by
  have hx := xor_lt a b ha hb
  have hl : Lib.bitLen (a ^^^ b) ≤ 32 := Lib.bitLen_le _ 32 (by omega) (by simpa using hx)
  have s1 : (a ^^^ b) < 2 ^ Lib.bitLen (a ^^^ b) := by
    by_cases h0 : a ^^^ b = 0
    · rw [h0]; decide
    · exact (Lib.bitLenAux_bounds 64 _ (by omega) h0).2.2
  have s2 : a ^^^ b ≠ 0 → 2 ^ (Lib.bitLen (a ^^^ b) - 1) ≤ a ^^^ b := fun h0 => (Lib.bitLenAux_bounds 64 _ (by omega) h0).2.1
  rw [cut_eq_iff, ← xor_zero, ← xor_div]
  unfold alikeN
  constructor
  · intro h
    apply Nat.div_eq_of_lt
    exact Nat.lt_of_lt_of_le s1 (Nat.pow_le_pow_right (by decide) (by omega))
  · intro h
    have h3 : (a ^^^ b) < 2 ^ (32 - j) := by
      rcases Nat.lt_or_ge (a ^^^ b) (2 ^ (32 - j)) with h4 | h4
      · exact h4
      · have := Nat.div_pos h4 (pow_pos _); omega
    by_cases h0 : a ^^^ b = 0
    · rw [h0]; have : Lib.bitLen 0 = 0 := by decide
      omega
    · have h4 := s2 h0
      have h5 : 2 ^ (Lib.bitLen (a ^^^ b) - 1) < 2 ^ (32 - j) := Nat.lt_of_le_of_lt h4 h3
      have h6 := (Nat.pow_lt_pow_iff_right (by decide : 1 < 2)).1 h5
      omega
theorem cut_succ (a k : Nat) (hk : k < 32) : cutN a (k + 1) = cutN a k + bitN a k * 2 ^ (31 - k) := by
  unfold cutN bitN
  rw [show 32 - (k + 1) = 31 - k by omega, pow_split k hk, ← Nat.div_div_eq_div_mul]
  generalize 2 ^ (31 - k) = t
  generalize a / t = z
  rw [Nat.mul_comm t 2, ← Nat.mul_assoc, ← Nat.add_mul]
  congr 1; omega

/-- How long what two prefixes have in common is. -/
def comN (pa k qa l : Nat) : Nat := min (min k l) (alikeN pa qa)
theorem com_parts (pa k qa l : Nat) (hpa : pa < 4294967296) (hqa : qa < 4294967296) : comN pa k qa l ≤ k ∧ comN pa k qa l ≤ l ∧ comN pa k qa l ≤ 32 ∧ cutN pa (comN pa k qa l) = cutN qa (comN pa k qa l) := by
  have h1 := alike_le pa qa
  have h2 : comN pa k qa l ≤ alikeN pa qa := Nat.min_le_right _ _
  have h3 : comN pa k qa l ≤ min k l := Nat.min_le_left _ _
  exact ⟨by omega, by omega, by omega, (alike_iff pa qa _ hpa hqa (by omega)).1 h2⟩
theorem com_last (pa k qa l : Nat) (hpa : pa < 4294967296) (hqa : qa < 4294967296) (hk : k ≤ 32) (h1 : comN pa k qa l < k) (h2 : comN pa k qa l < l) : bitN pa (comN pa k qa l) ≠ bitN qa (comN pa k qa l) := by
  intro e
  have hp := com_parts pa k qa l hpa hqa
  have h3 := (alike_iff pa qa (comN pa k qa l + 1) hpa hqa (by omega)).2 (by rw [cut_succ _ _ (by omega), cut_succ _ _ (by omega), hp.2.2.2, e])
  have h4 : comN pa k qa l = min (min k l) (alikeN pa qa) := rfl
  omega

theorem lz_any (x : Nat) (hx : x < 4294967296) (w : World) : Calls Tryd.prog 32 #[.int .u32 x] w fun e w' => e = .returned (.int .i64 ((32 - Lib.bitLen x : Nat) : Int)) ∧ w = w' :=
  (Tryd.bits_LeadingZeros32 x w (by omega) (by omega)).mono fun _ _ ⟨he, hw⟩ => by
    have hl : Lib.bitLen x ≤ 32 := Lib.bitLen_le _ 32 (by omega) (by simpa using hx)
    refine ⟨?_, hw.symm⟩
    rw [he]
    exact ret_i64 (by simp only [Int.toNat_natCast]; omega)

theorem common_bad (pa : Nat) (pn : Int) (qa : Nat) (qn : Int) (hpa : pa < 4294967296) (hqa : qa < 4294967296) (h : (goodB pa pn && goodB qa qn) = false) (w : World) :
    Calls Tryd.prog 16 #[.agg #[.int .u32 pa, .int .i64 pn], .agg #[.int .u32 qa, .int .i64 qn]] w fun e w' => e = .returned (.agg #[.int .u32 0, .int .i64 0]) ∧ Below w.heap.size w w' := by
  have hb := below_new3 w (.cells #[.int .u32 (pa : Int), .int .i64 pn] 24) (.cells #[.int .u32 (qa : Int), .int .i64 qn] 24) (.cells #[.int .u32 0, .int .i64 0] 24)
  obtain ⟨c0, c1, c2, c3, c4, c5⟩ := cells_six w (.int .u32 (pa : Int)) (.int .i64 pn) (.int .u32 (qa : Int)) (.int .i64 qn) (.int .u32 0) (.int .i64 0) 24
  obtain ⟨_, _, f4, f5⟩ := frozen_six w (.int .u32 (pa : Int)) (.int .i64 pn) (.int .u32 (qa : Int)) (.int .i64 qn) (.int .u32 0) (.int .i64 0) 24
  have hz2 : w.heap.size ≤ w.heap.size + 2 := by omega
  cases hp : goodB pa pn
  · clear h
    go_enter Tryd.func16, Tryd.ntmps16
    go_wp2_with fail
    generalize ((w.alloc (.cells #[.int .u32 (pa : Int), .int .i64 pn] 24)).alloc (.cells #[.int .u32 (qa : Int), .int .i64 qn] 24)).alloc (.cells #[.int .u32 0, .int .i64 0] 24) = W at hb c0 c1 c2 c3 c4 c5 f4 f5 ⊢
    go_wp2_with (go_at_call 11; refine (good_any _ _ (by assumption) _).mono ?_; rintro e w1 ⟨rfl, hb1⟩; have c4' := c4; have c5' := c5; replace c0 := keeps hb1 c0; replace c1 := keeps hb1 c1; replace c2 := keeps hb1 c2; replace c3 := keeps hb1 c3; replace c4 := keeps hb1 c4; replace c5 := keeps hb1 c5; replace f4 := keepsF hb1 c4' f4; replace f5 := keepsF hb1 c5' f5; replace hb := Below.tr hb hb1; clear hb1 c4' c5')
    refine bodyPost_ret (v := .agg #[.int .u32 0, .int .i64 0]) (by simp [results, Tryd.results16, go_sem, *]) rfl ⟨rfl, ?_⟩
    exact (hb.setCell hz2 _).setCell hz2 _
  · have hq : goodB qa qn = false := by rwa [hp] at h
    clear h
    go_enter Tryd.func16, Tryd.ntmps16
    go_wp2_with fail
    generalize ((w.alloc (.cells #[.int .u32 (pa : Int), .int .i64 pn] 24)).alloc (.cells #[.int .u32 (qa : Int), .int .i64 qn] 24)).alloc (.cells #[.int .u32 0, .int .i64 0] 24) = W at hb c0 c1 c2 c3 c4 c5 f4 f5 ⊢
    go_wp2_with (go_at_call 11; refine (good_any _ _ (by assumption) _).mono ?_; rintro e w1 ⟨rfl, hb1⟩; have c4' := c4; have c5' := c5; replace c0 := keeps hb1 c0; replace c1 := keeps hb1 c1; replace c2 := keeps hb1 c2; replace c3 := keeps hb1 c3; replace c4 := keeps hb1 c4; replace c5 := keeps hb1 c5; replace f4 := keepsF hb1 c4' f4; replace f5 := keepsF hb1 c5' f5; replace hb := Below.tr hb hb1; clear hb1 c4' c5')
    refine bodyPost_ret (v := .agg #[.int .u32 0, .int .i64 0]) (by simp [results, Tryd.results16, go_sem, *]) rfl ⟨rfl, ?_⟩
    exact (hb.setCell hz2 _).setCell hz2 _

theorem common_good (pa k qa l : Nat) (hpa : pa < 4294967296) (hqa : qa < 4294967296) (hk : k ≤ 32) (hp : goodB pa (k : Int) = true) (hq : goodB qa (l : Int) = true) (w : World) :
    Calls Tryd.prog 16 #[.agg #[.int .u32 pa, .int .i64 k], .agg #[.int .u32 qa, .int .i64 l]] w fun e w' => e = .returned (.agg #[.int .u32 (cutN pa (comN pa k qa l) : Int), .int .i64 (comN pa k qa l)]) ∧ Below w.heap.size w w' := by
  have hb := below_new3 w (.cells #[.int .u32 (pa : Int), .int .i64 k] 24) (.cells #[.int .u32 (qa : Int), .int .i64 l] 24) (.cells #[.int .u32 0, .int .i64 0] 24)
  obtain ⟨c0, c1, c2, c3, c4, c5⟩ := cells_six w (.int .u32 (pa : Int)) (.int .i64 k) (.int .u32 (qa : Int)) (.int .i64 l) (.int .u32 0) (.int .i64 0) 24
  obtain ⟨_, _, f4, f5⟩ := frozen_six w (.int .u32 (pa : Int)) (.int .i64 k) (.int .u32 (qa : Int)) (.int .i64 l) (.int .u32 0) (.int .i64 0) 24
  have hz2 : w.heap.size ≤ w.heap.size + 2 := by omega
  have hx := u32_xor_nat pa qa hpa hqa
  have hxl := xor_lt pa qa hpa hqa
  have hL := Go.Lib.hid (lz_any (pa ^^^ qa) hxl)
  obtain ⟨al, hal⟩ : ∃ al, al = alikeN pa qa := ⟨_, rfl⟩
  have hL2 : Hid (∀ w, Calls Tryd.prog 32 #[.int .u32 ((pa ^^^ qa : Nat) : Int)] w fun e w' => e = .returned (.int .i64 (al : Int)) ∧ w = w') := by rw [hal]; exact hL
  have hm : comN pa k qa l = min (min k l) al := by rw [hal]; rfl
  have hal32 : al ≤ 32 := by rw [hal]; exact alike_le _ _
  clear hL hal
  obtain ⟨m, hmm⟩ : ∃ m, m = comN pa k qa l := ⟨_, rfl⟩
  rw [← hmm] at hm ⊢
  clear hmm
  have hm32 : m ≤ 32 := by omega
  have CC := Go.Lib.hid (cut_any pa m hpa hm32)
  have hcase : (m = k ∧ k ≤ l ∧ k ≤ al) ∨ (m = l ∧ ¬ k ≤ l ∧ l ≤ al) ∨ (m = al ∧ k ≤ l ∧ ¬ k ≤ al) ∨ (m = al ∧ ¬ k ≤ l ∧ ¬ l ≤ al) := by omega
  clear hm
  rcases hcase with ⟨rfl, h1, h2⟩ | ⟨rfl, h1, h2⟩ | ⟨rfl, h1, h2⟩ | ⟨rfl, h1, h2⟩
  · go_enter Tryd.func16, Tryd.ntmps16
    go_wp2_with fail
    generalize ((w.alloc (.cells #[.int .u32 (pa : Int), .int .i64 m] 24)).alloc (.cells #[.int .u32 (qa : Int), .int .i64 l] 24)).alloc (.cells #[.int .u32 0, .int .i64 0] 24) = W at hb c0 c1 c2 c3 c4 c5 f4 f5 ⊢
    go_wp2_with (first | (go_at_call 11; refine (good_any _ _ (by assumption) _).mono ?_; rintro e w1 ⟨rfl, hb1⟩; have c4' := c4; have c5' := c5; replace c0 := keeps hb1 c0; replace c1 := keeps hb1 c1; replace c2 := keeps hb1 c2; replace c3 := keeps hb1 c3; replace c4 := keeps hb1 c4; replace c5 := keeps hb1 c5; replace f4 := keepsF hb1 c4' f4; replace f5 := keepsF hb1 c5' f5; replace hb := Below.tr hb hb1; clear hb1 c4' c5') | (go_at_call 32; refine (hL2.out _).mono ?_; rintro e w2 ⟨rfl, rfl⟩) | (go_at_call 31; refine (CC.out _).mono ?_; rintro e w1 ⟨rfl, hb1⟩; have c4' := c4; have c5' := c5; replace c0 := keeps hb1 c0; replace c1 := keeps hb1 c1; replace c2 := keeps hb1 c2; replace c3 := keeps hb1 c3; replace c4 := keeps hb1 c4; replace c5 := keeps hb1 c5; replace f4 := keepsF hb1 c4' f4; replace f5 := keepsF hb1 c5' f5; replace hb := Below.tr hb hb1; clear hb1 c4' c5'))
    refine bodyPost_ret (v := .agg #[.int .u32 _, .int .i64 _]) (by simp [results, Tryd.results16, go_sem, c4, c5]) rfl ⟨rfl, ?_⟩
    exact (hb.setCell hz2 _).setCell hz2 _
  · go_enter Tryd.func16, Tryd.ntmps16
    go_wp2_with fail
    generalize ((w.alloc (.cells #[.int .u32 (pa : Int), .int .i64 k] 24)).alloc (.cells #[.int .u32 (qa : Int), .int .i64 m] 24)).alloc (.cells #[.int .u32 0, .int .i64 0] 24) = W at hb c0 c1 c2 c3 c4 c5 f4 f5 ⊢
    go_wp2_with (first | (go_at_call 11; refine (good_any _ _ (by assumption) _).mono ?_; rintro e w1 ⟨rfl, hb1⟩; have c4' := c4; have c5' := c5; replace c0 := keeps hb1 c0; replace c1 := keeps hb1 c1; replace c2 := keeps hb1 c2; replace c3 := keeps hb1 c3; replace c4 := keeps hb1 c4; replace c5 := keeps hb1 c5; replace f4 := keepsF hb1 c4' f4; replace f5 := keepsF hb1 c5' f5; replace hb := Below.tr hb hb1; clear hb1 c4' c5') | (go_at_call 32; refine (hL2.out _).mono ?_; rintro e w2 ⟨rfl, rfl⟩) | (go_at_call 31; refine (CC.out _).mono ?_; rintro e w1 ⟨rfl, hb1⟩; have c4' := c4; have c5' := c5; replace c0 := keeps hb1 c0; replace c1 := keeps hb1 c1; replace c2 := keeps hb1 c2; replace c3 := keeps hb1 c3; replace c4 := keeps hb1 c4; replace c5 := keeps hb1 c5; replace f4 := keepsF hb1 c4' f4; replace f5 := keepsF hb1 c5' f5; replace hb := Below.tr hb hb1; clear hb1 c4' c5'))
    refine bodyPost_ret (v := .agg #[.int .u32 _, .int .i64 _]) (by simp [results, Tryd.results16, go_sem, c4, c5]) rfl ⟨rfl, ?_⟩
    exact (hb.setCell hz2 _).setCell hz2 _
  · go_enter Tryd.func16, Tryd.ntmps16
    go_wp2_with fail
    generalize ((w.alloc (.cells #[.int .u32 (pa : Int), .int .i64 k] 24)).alloc (.cells #[.int .u32 (qa : Int), .int .i64 l] 24)).alloc (.cells #[.int .u32 0, .int .i64 0] 24) = W at hb c0 c1 c2 c3 c4 c5 f4 f5 ⊢
    go_wp2_with (first | (go_at_call 11; refine (good_any _ _ (by assumption) _).mono ?_; rintro e w1 ⟨rfl, hb1⟩; have c4' := c4; have c5' := c5; replace c0 := keeps hb1 c0; replace c1 := keeps hb1 c1; replace c2 := keeps hb1 c2; replace c3 := keeps hb1 c3; replace c4 := keeps hb1 c4; replace c5 := keeps hb1 c5; replace f4 := keepsF hb1 c4' f4; replace f5 := keepsF hb1 c5' f5; replace hb := Below.tr hb hb1; clear hb1 c4' c5') | (go_at_call 32; refine (hL2.out _).mono ?_; rintro e w2 ⟨rfl, rfl⟩) | (go_at_call 31; refine (CC.out _).mono ?_; rintro e w1 ⟨rfl, hb1⟩; have c4' := c4; have c5' := c5; replace c0 := keeps hb1 c0; replace c1 := keeps hb1 c1; replace c2 := keeps hb1 c2; replace c3 := keeps hb1 c3; replace c4 := keeps hb1 c4; replace c5 := keeps hb1 c5; replace f4 := keepsF hb1 c4' f4; replace f5 := keepsF hb1 c5' f5; replace hb := Below.tr hb hb1; clear hb1 c4' c5'))
    refine bodyPost_ret (v := .agg #[.int .u32 _, .int .i64 _]) (by simp [results, Tryd.results16, go_sem, c4, c5]) rfl ⟨rfl, ?_⟩
    exact (hb.setCell hz2 _).setCell hz2 _
  · go_enter Tryd.func16, Tryd.ntmps16
    go_wp2_with fail
    generalize ((w.alloc (.cells #[.int .u32 (pa : Int), .int .i64 k] 24)).alloc (.cells #[.int .u32 (qa : Int), .int .i64 l] 24)).alloc (.cells #[.int .u32 0, .int .i64 0] 24) = W at hb c0 c1 c2 c3 c4 c5 f4 f5 ⊢
    go_wp2_with (first | (go_at_call 11; refine (good_any _ _ (by assumption) _).mono ?_; rintro e w1 ⟨rfl, hb1⟩; have c4' := c4; have c5' := c5; replace c0 := keeps hb1 c0; replace c1 := keeps hb1 c1; replace c2 := keeps hb1 c2; replace c3 := keeps hb1 c3; replace c4 := keeps hb1 c4; replace c5 := keeps hb1 c5; replace f4 := keepsF hb1 c4' f4; replace f5 := keepsF hb1 c5' f5; replace hb := Below.tr hb hb1; clear hb1 c4' c5') | (go_at_call 32; refine (hL2.out _).mono ?_; rintro e w2 ⟨rfl, rfl⟩) | (go_at_call 31; refine (CC.out _).mono ?_; rintro e w1 ⟨rfl, hb1⟩; have c4' := c4; have c5' := c5; replace c0 := keeps hb1 c0; replace c1 := keeps hb1 c1; replace c2 := keeps hb1 c2; replace c3 := keeps hb1 c3; replace c4 := keeps hb1 c4; replace c5 := keeps hb1 c5; replace f4 := keepsF hb1 c4' f4; replace f5 := keepsF hb1 c5' f5; replace hb := Below.tr hb hb1; clear hb1 c4' c5'))
    refine bodyPost_ret (v := .agg #[.int .u32 _, .int .i64 _]) (by simp [results, Tryd.results16, go_sem, c4, c5]) rfl ⟨rfl, ?_⟩
    exact (hb.setCell hz2 _).setCell hz2 _

end Go.Proofs.YtmdfihmmencdoaaDoor.Pfx
