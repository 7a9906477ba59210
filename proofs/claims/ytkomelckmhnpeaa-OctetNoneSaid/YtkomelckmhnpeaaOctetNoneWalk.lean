/- OctetNone: the law's walk. -/
import Derived.Test.YtkomelckmhnpeaaOctLives
import Derived.Outline
namespace Go.Proofs.Ytkomelckmhnpeaa.Oct
open Go.RowKit Mem Ahead

theorem only_none {W W' : World} (h : Only (fun _ => False) W W') : Below W.heap.size W W' := h.below (fun _ hk => hk.elim) (Nat.le_refl _)
theorem got_bad (l : List Nat) (k : Int) : got l true k = [] := by simp [got, fails]
/-- No bytes. -/
def NoBytes (w : World) (e : Ending) (w' : World) : Prop := ∃ A c, e = .returned (.slice A 0 c) ∧ Below w.heap.size w w'
/-- A reader that is bad. -/
def BadNew (w : World) (e : Ending) (w' : World) : Prop := ∃ b base n F, e = .returned (.pointer (some ⟨b, 0, none⟩)) ∧ R w' base n (.pointer (some ⟨b, 0, none⟩)) [] true F ∧ Below w.heap.size w w'

set_option maxRecDepth 100000 in
set_option maxHeartbeats 4000000 in
theorem none_walk (n : Int) (hn : (Lit.int .i64 n).wf = true) (w : World) : Calls Try.prog 6 #[.int .i64 n] w (Tells (.bool true) w) := by
  have hR := fun W => R.none_ W 0 0
  have C1 := Go.Lib.hid (fun W => show Calls Try.prog 9 #[.pointer none] W (Tells (.int .i64 0) W) from (u8_any _ 0 0 [] true _ W small_nil (hR W)).mono fun e w' ⟨he, _, ho⟩ => ⟨he, only_none ho⟩)
  have C2 := Go.Lib.hid (fun W => show Calls Try.prog 11 #[.pointer none] W (Tells (.int .i64 0) W) from (u16_any _ 0 0 [] true _ W small_nil (hR W)).mono fun e w' ⟨he, _, ho⟩ => ⟨he, only_none ho⟩)
  have C3 := Go.Lib.hid (fun W => show Calls Try.prog 12 #[.pointer none] W (Tells (.int .u32 0) W) from (u32_any _ 0 0 [] true _ W small_nil (hR W)).mono fun e w' ⟨he, _, ho⟩ => ⟨he, only_none ho⟩)
  have C4 := Go.Lib.hid (fun W => show Calls Try.prog 13 #[.pointer none, .int .i64 n] W (NoBytes W) from (take_any _ 0 0 [] true _ n hn W (hR W)).mono fun e w' ⟨A, c, he, _, _, ho⟩ => ⟨A, c, by rw [got_bad] at he; exact he, only_none ho⟩)
  have C5 := Go.Lib.hid (fun W => show Calls Try.prog 14 #[.pointer none, .int .i64 0] W (BadNew W) from (part_any _ 0 0 [] true _ 0 (by decide) W (Nat.zero_le _) (hR W)).mono fun e w' ⟨b, he, _, h1, _, ho⟩ => ⟨b, _, _, _, he, h1, only_none ho⟩)
  have C6 := Go.Lib.hid (fun (b base n : Nat) (F : Nat → Prop) W (h : R W base n (.pointer (some ⟨b, 0, none⟩)) [] true F) => bad_any _ base n [] true F W h)
  have C7 := Go.Lib.hid (fun W => show Calls Try.prog 17 #[.pointer none] W (NoBytes W) from (rest_any _ 0 0 [] true _ W (by decide) (hR W)).mono fun e w' ⟨A, c, he, _, _, ho⟩ => ⟨A, c, by rw [got_bad] at he; exact he, only_none ho⟩)
  have C8 := Go.Lib.hid (fun W => show Calls Try.prog 16 #[.pointer none] W (Tells (.int .i64 0) W) from left_any _ 0 0 [] true _ W (hR W))
  have C9 := Go.Lib.hid (fun W => show Calls Try.prog 15 #[.pointer none] W (Tells (.bool true) W) from bad_any _ 0 0 [] true _ W (hR W))
  have C10 := Go.Lib.hid (fun W => w8_nil n W)
  have C11 := Go.Lib.hid (fun W => w16_nil n W)
  have C12 := Go.Lib.hid (fun W => show Calls Try.prog 21 #[.pointer none, .int .u32 5] W (Tells (.pointer none) W) from w32_nil 5 W)
  have C13 := Go.Lib.hid put_nil
  have C14 := Go.Lib.hid sized_nil
  have C15 := Go.Lib.hid long_nil
  have C16 := Go.Lib.hid (fun W => show Calls Try.prog 26 #[.pointer none] W (NoBytes W) from (wbytes_nil W).mono fun e w' ⟨A, c, he, _, hb⟩ => ⟨A, c, he, hb⟩)
  have CL := Go.Lib.hid lives_any
  clear hR hn
  have B0 := Go.Lib.hid (Below.refl w.heap.size w)
  go_enter Try.func6, Try.ntmps6
  go_wp2_with (first
    | (go_at_call 9; refine (C1.out _).mono ?_; rintro e w1 ⟨rfl, hb⟩; have B1 := Go.Lib.hid (B0.out.trans (hb.mono B0.out.size)); clear hb)
    | (go_at_call 11; refine (C2.out _).mono ?_; rintro e w2 ⟨rfl, hb⟩; have B2 := Go.Lib.hid (B1.out.trans (hb.mono B1.out.size)); clear hb)
    | (go_at_call 12; refine (C3.out _).mono ?_; rintro e w3 ⟨rfl, hb⟩; have B3 := Go.Lib.hid (B2.out.trans (hb.mono B2.out.size)); clear hb)
    | (go_at_call 13; refine (C4.out _).mono ?_; rintro e w4 ⟨A4, c4, rfl, hb⟩; have B4 := Go.Lib.hid (B3.out.trans (hb.mono B3.out.size)); clear hb)
    | (go_at_call 14; refine (C5.out _).mono ?_; rintro e w5 ⟨b5, base5, n5, F5, rfl, h5, hb⟩; have B5 := Go.Lib.hid (B4.out.trans (hb.mono B4.out.size)); have R5 := Go.Lib.hid h5; clear h5; clear hb)
    | (go_at_call 15; have h := B8.out; refine (C9.out _).mono ?_; rintro e w9 ⟨rfl, hb⟩; have B9 := Go.Lib.hid (B8.out.trans (hb.mono B8.out.size)); clear h; clear hb)
    | (go_at_call 15; have h := R5.out; refine (C6.out _ _ _ _ _ h).mono ?_; rintro e w6 ⟨rfl, hb⟩; have B6 := Go.Lib.hid (B5.out.trans (hb.mono B5.out.size)); clear h R5; clear hb)
    | (go_at_call 17; refine (C7.out _).mono ?_; rintro e w7 ⟨A7, c7, rfl, hb⟩; have B7 := Go.Lib.hid (B6.out.trans (hb.mono B6.out.size)); clear hb)
    | (go_at_call 16; refine (C8.out _).mono ?_; rintro e w8 ⟨rfl, hb⟩; have B8 := Go.Lib.hid (B7.out.trans (hb.mono B7.out.size)); clear hb)
    | (go_at_call 19; refine (C10.out _).mono ?_; rintro e w10 ⟨rfl, hb⟩; have B10 := Go.Lib.hid (B9.out.trans (hb.mono B9.out.size)); clear hb)
    | (go_at_call 20; refine (C11.out _).mono ?_; rintro e w11 ⟨rfl, hb⟩; have B11 := Go.Lib.hid (B10.out.trans (hb.mono B10.out.size)); clear hb)
    | (go_at_call 21; refine (C12.out _).mono ?_; rintro e w12 ⟨rfl, hb⟩; have B12 := Go.Lib.hid (B11.out.trans (hb.mono B11.out.size)); have B12n := Go.Lib.hid (B12.out.alloc B12.out.size (.cells #[.int .u8 1] 5)); clear hb)
    | (go_at_call 23; refine (C13.out _ _).mono ?_; rintro e w13 ⟨rfl, hb⟩; have B13 := Go.Lib.hid (B12n.out.trans (hb.mono B12n.out.size)); clear hb)
    | (go_at_call 24; refine (C14.out _ _).mono ?_; rintro e w14 ⟨rfl, hb⟩; have B14 := Go.Lib.hid (B13.out.trans (hb.mono B13.out.size)); clear hb)
    | (go_at_call 25; refine (C15.out _ _).mono ?_; rintro e w15 ⟨rfl, hb⟩; have B15 := Go.Lib.hid (B14.out.trans (hb.mono B14.out.size)); clear hb)
    | (go_at_call 26; refine (C16.out _).mono ?_; rintro e w16 ⟨A16, c16, rfl, hb⟩; have B16 := Go.Lib.hid (B15.out.trans (hb.mono B15.out.size)); clear hb)
    | (go_at_call 18; refine (CL.out _).mono ?_; rintro e w17 ⟨rfl, hb⟩; have B17 := Go.Lib.hid (B16.out.trans (hb.mono B16.out.size)); clear hb))
  go_ret
  exact ⟨rfl, B17.out⟩
end Go.Proofs.Ytkomelckmhnpeaa.Oct
