/- The contract of Common, and its mathematics. -/
import Derived.Test.YtgjdpmpbldofpaaDoorShelf
import Derived.Test.YtgjdpmpbldofpaaDoorPfxSix
import Derived.Test.YtgjdpmpbldofpaaDoorPfxComM
namespace Go.Proofs.YtgjdpmpbldofpaaDoor.Pfx
open Go.RowKit Go.Sort

theorem lz_any (x : Nat) (hx : x < 4294967296) (w : World) : Calls Tryd.prog 40 #[.int .u32 x] w fun e w' => e = .returned (.int .i64 ((32 - Lib.bitLen x : Nat) : Int)) ∧ w = w' :=
  (Tryd.bits_LeadingZeros32 x w (by omega) (by omega)).mono fun _ _ ⟨he, hw⟩ => by
    have hl : Lib.bitLen x ≤ 32 := Lib.bitLen_le _ 32 (by omega) (by simpa using hx)
    refine ⟨?_, hw.symm⟩
    rw [he]
    exact ret_i64 (by simp only [Int.toNat_natCast]; omega)

theorem common_bad (pa : Nat) (pn : Int) (qa : Nat) (qn : Int) (hpa : pa < 4294967296) (hqa : qa < 4294967296) (h : (goodB pa pn && goodB qa qn) = false) (w : World) :
    Calls Tryd.prog 30 #[.agg #[.int .u32 pa, .int .i64 pn], .agg #[.int .u32 qa, .int .i64 qn]] w fun e w' => e = .returned (.agg #[.int .u32 0, .int .i64 0]) ∧ Below w.heap.size w w' := by
  have hb := below_new3 w (.cells #[.int .u32 (pa : Int), .int .i64 pn] 24) (.cells #[.int .u32 (qa : Int), .int .i64 qn] 24) (.cells #[.int .u32 0, .int .i64 0] 24)
  obtain ⟨c0, c1, c2, c3, c4, c5⟩ := cells_six w (.int .u32 (pa : Int)) (.int .i64 pn) (.int .u32 (qa : Int)) (.int .i64 qn) (.int .u32 0) (.int .i64 0) 24
  obtain ⟨_, _, f4, f5⟩ := frozen_six w (.int .u32 (pa : Int)) (.int .i64 pn) (.int .u32 (qa : Int)) (.int .i64 qn) (.int .u32 0) (.int .i64 0) 24
  have hz2 : w.heap.size ≤ w.heap.size + 2 := by omega
  cases hp : goodB pa pn
  · clear h
    go_enter Tryd.func30, Tryd.ntmps30
    go_wp2_with fail
    generalize ((w.alloc (.cells #[.int .u32 (pa : Int), .int .i64 pn] 24)).alloc (.cells #[.int .u32 (qa : Int), .int .i64 qn] 24)).alloc (.cells #[.int .u32 0, .int .i64 0] 24) = W at hb c0 c1 c2 c3 c4 c5 f4 f5 ⊢
    go_wp2_with (go_at_call 26; refine (good_any _ _ (by assumption) _).mono ?_; rintro e w1 ⟨rfl, hb1⟩; have c4' := c4; have c5' := c5; replace c0 := keeps hb1 c0; replace c1 := keeps hb1 c1; replace c2 := keeps hb1 c2; replace c3 := keeps hb1 c3; replace c4 := keeps hb1 c4; replace c5 := keeps hb1 c5; replace f4 := keepsF hb1 c4' f4; replace f5 := keepsF hb1 c5' f5; replace hb := Below.tr hb hb1; clear hb1 c4' c5')
    refine bodyPost_ret (v := .agg #[.int .u32 0, .int .i64 0]) (by simp [results, Tryd.results30, go_sem, *]) rfl ⟨rfl, ?_⟩
    exact (hb.setCell hz2 _).setCell hz2 _
  · have hq : goodB qa qn = false := by rwa [hp] at h
    clear h
    go_enter Tryd.func30, Tryd.ntmps30
    go_wp2_with fail
    generalize ((w.alloc (.cells #[.int .u32 (pa : Int), .int .i64 pn] 24)).alloc (.cells #[.int .u32 (qa : Int), .int .i64 qn] 24)).alloc (.cells #[.int .u32 0, .int .i64 0] 24) = W at hb c0 c1 c2 c3 c4 c5 f4 f5 ⊢
    go_wp2_with (go_at_call 26; refine (good_any _ _ (by assumption) _).mono ?_; rintro e w1 ⟨rfl, hb1⟩; have c4' := c4; have c5' := c5; replace c0 := keeps hb1 c0; replace c1 := keeps hb1 c1; replace c2 := keeps hb1 c2; replace c3 := keeps hb1 c3; replace c4 := keeps hb1 c4; replace c5 := keeps hb1 c5; replace f4 := keepsF hb1 c4' f4; replace f5 := keepsF hb1 c5' f5; replace hb := Below.tr hb hb1; clear hb1 c4' c5')
    refine bodyPost_ret (v := .agg #[.int .u32 0, .int .i64 0]) (by simp [results, Tryd.results30, go_sem, *]) rfl ⟨rfl, ?_⟩
    exact (hb.setCell hz2 _).setCell hz2 _

theorem common_good (pa k qa l : Nat) (hpa : pa < 4294967296) (hqa : qa < 4294967296) (hk : k ≤ 32) (hp : goodB pa (k : Int) = true) (hq : goodB qa (l : Int) = true) (w : World) :
    Calls Tryd.prog 30 #[.agg #[.int .u32 pa, .int .i64 k], .agg #[.int .u32 qa, .int .i64 l]] w fun e w' => e = .returned (.agg #[.int .u32 (cutN pa (comN pa k qa l) : Int), .int .i64 (comN pa k qa l)]) ∧ Below w.heap.size w w' := by
  have hb := below_new3 w (.cells #[.int .u32 (pa : Int), .int .i64 k] 24) (.cells #[.int .u32 (qa : Int), .int .i64 l] 24) (.cells #[.int .u32 0, .int .i64 0] 24)
  obtain ⟨c0, c1, c2, c3, c4, c5⟩ := cells_six w (.int .u32 (pa : Int)) (.int .i64 k) (.int .u32 (qa : Int)) (.int .i64 l) (.int .u32 0) (.int .i64 0) 24
  obtain ⟨_, _, f4, f5⟩ := frozen_six w (.int .u32 (pa : Int)) (.int .i64 k) (.int .u32 (qa : Int)) (.int .i64 l) (.int .u32 0) (.int .i64 0) 24
  have hz2 : w.heap.size ≤ w.heap.size + 2 := by omega
  have hx := u32_xor_nat pa qa hpa hqa
  have hxl := xor_lt pa qa hpa hqa
  have hL := Go.Lib.hid (lz_any (pa ^^^ qa) hxl)
  obtain ⟨al, hal⟩ : ∃ al, al = alikeN pa qa := ⟨_, rfl⟩
  have hL2 : Hid (∀ w, Calls Tryd.prog 40 #[.int .u32 ((pa ^^^ qa : Nat) : Int)] w fun e w' => e = .returned (.int .i64 (al : Int)) ∧ w = w') := by rw [hal]; exact hL
  have hm : comN pa k qa l = min (min k l) al := by rw [hal]; rfl
  have hal32 : al ≤ 32 := by rw [hal]; exact alike_le _ _
  clear hL hal
  obtain ⟨m, hmm⟩ : ∃ m, m = comN pa k qa l := ⟨_, rfl⟩
  rw [← hmm] at hm ⊢
  clear hmm
  have hm32 : m ≤ 32 := by omega
  have CC := Go.Lib.hid (cut_any pa m hpa hm32)
  have hcase : (m = k ∧ k ≤ l ∧ k ≤ al) ∨ (m = l ∧ ¬ k ≤ l ∧ l ≤ al) ∨ (m = al ∧ k ≤ l ∧ ¬ k ≤ al) ∨ (m = al ∧ ¬ k ≤ l ∧ ¬ l ≤ al) := by omega
  clear hm
  rcases hcase with ⟨rfl, h1, h2⟩ | ⟨rfl, h1, h2⟩ | ⟨rfl, h1, h2⟩ | ⟨rfl, h1, h2⟩
  · go_enter Tryd.func30, Tryd.ntmps30
    go_wp2_with fail
    generalize ((w.alloc (.cells #[.int .u32 (pa : Int), .int .i64 m] 24)).alloc (.cells #[.int .u32 (qa : Int), .int .i64 l] 24)).alloc (.cells #[.int .u32 0, .int .i64 0] 24) = W at hb c0 c1 c2 c3 c4 c5 f4 f5 ⊢
    go_wp2_with (first | (go_at_call 26; refine (good_any _ _ (by assumption) _).mono ?_; rintro e w1 ⟨rfl, hb1⟩; have c4' := c4; have c5' := c5; replace c0 := keeps hb1 c0; replace c1 := keeps hb1 c1; replace c2 := keeps hb1 c2; replace c3 := keeps hb1 c3; replace c4 := keeps hb1 c4; replace c5 := keeps hb1 c5; replace f4 := keepsF hb1 c4' f4; replace f5 := keepsF hb1 c5' f5; replace hb := Below.tr hb hb1; clear hb1 c4' c5') | (go_at_call 40; refine (hL2.out _).mono ?_; rintro e w2 ⟨rfl, rfl⟩) | (go_at_call 41; refine (CC.out _).mono ?_; rintro e w1 ⟨rfl, hb1⟩; have c4' := c4; have c5' := c5; replace c0 := keeps hb1 c0; replace c1 := keeps hb1 c1; replace c2 := keeps hb1 c2; replace c3 := keeps hb1 c3; replace c4 := keeps hb1 c4; replace c5 := keeps hb1 c5; replace f4 := keepsF hb1 c4' f4; replace f5 := keepsF hb1 c5' f5; replace hb := Below.tr hb hb1; clear hb1 c4' c5'))
    refine bodyPost_ret (v := .agg #[.int .u32 _, .int .i64 _]) (by simp [results, Tryd.results30, go_sem, c4, c5]) rfl ⟨rfl, ?_⟩
    exact (hb.setCell hz2 _).setCell hz2 _
  · go_enter Tryd.func30, Tryd.ntmps30
    go_wp2_with fail
    generalize ((w.alloc (.cells #[.int .u32 (pa : Int), .int .i64 k] 24)).alloc (.cells #[.int .u32 (qa : Int), .int .i64 m] 24)).alloc (.cells #[.int .u32 0, .int .i64 0] 24) = W at hb c0 c1 c2 c3 c4 c5 f4 f5 ⊢
    go_wp2_with (first | (go_at_call 26; refine (good_any _ _ (by assumption) _).mono ?_; rintro e w1 ⟨rfl, hb1⟩; have c4' := c4; have c5' := c5; replace c0 := keeps hb1 c0; replace c1 := keeps hb1 c1; replace c2 := keeps hb1 c2; replace c3 := keeps hb1 c3; replace c4 := keeps hb1 c4; replace c5 := keeps hb1 c5; replace f4 := keepsF hb1 c4' f4; replace f5 := keepsF hb1 c5' f5; replace hb := Below.tr hb hb1; clear hb1 c4' c5') | (go_at_call 40; refine (hL2.out _).mono ?_; rintro e w2 ⟨rfl, rfl⟩) | (go_at_call 41; refine (CC.out _).mono ?_; rintro e w1 ⟨rfl, hb1⟩; have c4' := c4; have c5' := c5; replace c0 := keeps hb1 c0; replace c1 := keeps hb1 c1; replace c2 := keeps hb1 c2; replace c3 := keeps hb1 c3; replace c4 := keeps hb1 c4; replace c5 := keeps hb1 c5; replace f4 := keepsF hb1 c4' f4; replace f5 := keepsF hb1 c5' f5; replace hb := Below.tr hb hb1; clear hb1 c4' c5'))
    refine bodyPost_ret (v := .agg #[.int .u32 _, .int .i64 _]) (by simp [results, Tryd.results30, go_sem, c4, c5]) rfl ⟨rfl, ?_⟩
    exact (hb.setCell hz2 _).setCell hz2 _
  · go_enter Tryd.func30, Tryd.ntmps30
    go_wp2_with fail
    generalize ((w.alloc (.cells #[.int .u32 (pa : Int), .int .i64 k] 24)).alloc (.cells #[.int .u32 (qa : Int), .int .i64 l] 24)).alloc (.cells #[.int .u32 0, .int .i64 0] 24) = W at hb c0 c1 c2 c3 c4 c5 f4 f5 ⊢
    go_wp2_with (first | (go_at_call 26; refine (good_any _ _ (by assumption) _).mono ?_; rintro e w1 ⟨rfl, hb1⟩; have c4' := c4; have c5' := c5; replace c0 := keeps hb1 c0; replace c1 := keeps hb1 c1; replace c2 := keeps hb1 c2; replace c3 := keeps hb1 c3; replace c4 := keeps hb1 c4; replace c5 := keeps hb1 c5; replace f4 := keepsF hb1 c4' f4; replace f5 := keepsF hb1 c5' f5; replace hb := Below.tr hb hb1; clear hb1 c4' c5') | (go_at_call 40; refine (hL2.out _).mono ?_; rintro e w2 ⟨rfl, rfl⟩) | (go_at_call 41; refine (CC.out _).mono ?_; rintro e w1 ⟨rfl, hb1⟩; have c4' := c4; have c5' := c5; replace c0 := keeps hb1 c0; replace c1 := keeps hb1 c1; replace c2 := keeps hb1 c2; replace c3 := keeps hb1 c3; replace c4 := keeps hb1 c4; replace c5 := keeps hb1 c5; replace f4 := keepsF hb1 c4' f4; replace f5 := keepsF hb1 c5' f5; replace hb := Below.tr hb hb1; clear hb1 c4' c5'))
    refine bodyPost_ret (v := .agg #[.int .u32 _, .int .i64 _]) (by simp [results, Tryd.results30, go_sem, c4, c5]) rfl ⟨rfl, ?_⟩
    exact (hb.setCell hz2 _).setCell hz2 _
  · go_enter Tryd.func30, Tryd.ntmps30
    go_wp2_with fail
    generalize ((w.alloc (.cells #[.int .u32 (pa : Int), .int .i64 k] 24)).alloc (.cells #[.int .u32 (qa : Int), .int .i64 l] 24)).alloc (.cells #[.int .u32 0, .int .i64 0] 24) = W at hb c0 c1 c2 c3 c4 c5 f4 f5 ⊢
    go_wp2_with (first | (go_at_call 26; refine (good_any _ _ (by assumption) _).mono ?_; rintro e w1 ⟨rfl, hb1⟩; have c4' := c4; have c5' := c5; replace c0 := keeps hb1 c0; replace c1 := keeps hb1 c1; replace c2 := keeps hb1 c2; replace c3 := keeps hb1 c3; replace c4 := keeps hb1 c4; replace c5 := keeps hb1 c5; replace f4 := keepsF hb1 c4' f4; replace f5 := keepsF hb1 c5' f5; replace hb := Below.tr hb hb1; clear hb1 c4' c5') | (go_at_call 40; refine (hL2.out _).mono ?_; rintro e w2 ⟨rfl, rfl⟩) | (go_at_call 41; refine (CC.out _).mono ?_; rintro e w1 ⟨rfl, hb1⟩; have c4' := c4; have c5' := c5; replace c0 := keeps hb1 c0; replace c1 := keeps hb1 c1; replace c2 := keeps hb1 c2; replace c3 := keeps hb1 c3; replace c4 := keeps hb1 c4; replace c5 := keeps hb1 c5; replace f4 := keepsF hb1 c4' f4; replace f5 := keepsF hb1 c5' f5; replace hb := Below.tr hb hb1; clear hb1 c4' c5'))
    refine bodyPost_ret (v := .agg #[.int .u32 _, .int .i64 _]) (by simp [results, Tryd.results30, go_sem, c4, c5]) rfl ⟨rfl, ?_⟩
    exact (hb.setCell hz2 _).setCell hz2 _

end Go.Proofs.YtgjdpmpbldofpaaDoor.Pfx
