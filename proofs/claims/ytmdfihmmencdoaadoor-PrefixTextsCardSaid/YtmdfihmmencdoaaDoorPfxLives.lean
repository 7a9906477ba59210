/- The contract of the statements' small living call: it answers true in every world. -/
import Derived.Test.YtmdfihmmencdoaaDoorPfxText
namespace Go.Proofs.YtmdfihmmencdoaaDoor.Pfx
open Go.RowKit Go.Sort

theorem live_itoa (w : World) : ItoaOk 167772160 w := by
  intro j hj W _
  have h : byteN 167772160 j < 100 := by
    rcases (show j = 0 ∨ j = 1 ∨ j = 2 ∨ j = 3 by omega) with rfl | rfl | rfl | rfl <;> decide
  exact (Tryd.strconv_Itoa_small _ h W).mono fun _ _ ⟨he, hw⟩ => ⟨he, hw ▸ Below.refl _ _⟩

theorem live_text : strOf (textT 167772160 8) = ⟨#[49, 48, 46, 48, 46, 48, 46, 48, 47, 56]⟩ := by
  unfold strOf textT addrT
  have b0 : byteN 167772160 0 = 10 := by decide
  have b1 : byteN 167772160 1 = 0 := by decide
  have b2 : byteN 167772160 2 = 0 := by decide
  have b3 : byteN 167772160 3 = 0 := by decide
  have d10 : dec 10 = [49, 48] := by rw [dec, Lib.decDigits_two (by omega) (by omega)]; rfl
  have d0 : dec 0 = [48] := by rw [dec, Lib.decDigits_one (by omega)]; rfl
  have d8 : dec 8 = [56] := by rw [dec, Lib.decDigits_one (by omega)]; rfl
  rw [d8]
  simp only [addrPre, b0, b1, b2, b3, d10, d0]
  rfl

theorem lives_any (w : World) : Calls Tryd.prog 15 #[] w fun e w' => e = .returned (.bool true) ∧ Below w.heap.size w w' := by
  have ecut : cutN 167772415 8 = 167772160 := by decide
  have cM : ∀ w, Calls Tryd.prog 8 #[.int .u32 167772415, .int .i64 8] w fun e w' => e = .returned (.tuple #[.agg #[.int .u32 167772160, .int .i64 8], .int .i64 0]) ∧ Below w.heap.size w w' := fun w => by
    have := make_in 167772415 8 (by decide) (by decide) w
    rw [ecut] at this
    exact this
  have cT : ∀ w, Calls Tryd.prog 25 #[.agg #[.int .u32 167772160, .int .i64 8]] w fun e w' => e = .returned (.string ⟨#[49, 48, 46, 48, 46, 48, 46, 48, 47, 56]⟩) ∧ Below w.heap.size w w' := fun w => by
    have := text_good 167772160 8 (by decide) (by decide) (by decide) w (live_itoa w)
    rw [live_text] at this
    exact this
  have cH : ∀ w, Calls Tryd.prog 20 #[.agg #[.int .u32 167772160, .int .i64 8], .int .u32 184549375] w fun e w' => e = .returned (.bool true) ∧ Below w.heap.size w w' := fun w => by
    have := has_any 167772160 8 184549375 (by decide) (by decide) w
    rw [show hasB 167772160 8 184549375 = true by decide] at this
    exact this
  have cK : ∀ w, Calls Tryd.prog 9 #[.int .i64 8] w fun e w' => e = .returned (.int .u32 4278190080) ∧ w = w' := fun w => mask_in 8 (by decide) w
  have H := Go.Lib.hid (And.intro cM (And.intro cT (And.intro cH cK)))
  clear cM cT cH cK ecut
  go_enter Tryd.func15, Tryd.ntmps15
  go_wp2_with (first | (go_at_call 8; refine (H.out.1 _).mono ?_; rintro e w1 ⟨rfl, hb1⟩) | (go_at_call 25; refine (H.out.2.1 _).mono ?_; rintro e w2 ⟨rfl, hb2⟩; obtain ⟨c0, c1⟩ := cells_two w1 (.int .u32 167772160) (.int .i64 8) 24; have d0 := keeps hb2 c0; have d1 := keeps hb2 c1) | (go_at_call 20; refine (H.out.2.2.1 _).mono ?_; rintro e w3 ⟨rfl, hb3⟩) | (go_at_call 9; refine (H.out.2.2.2 _).mono ?_; rintro e w4 ⟨rfl, rfl⟩))
  go_ret
  exact ⟨rfl, Below.tr hb1 (Below.tr (below_new _ _) (Below.tr hb2 hb3))⟩

end Go.Proofs.YtmdfihmmencdoaaDoor.Pfx
