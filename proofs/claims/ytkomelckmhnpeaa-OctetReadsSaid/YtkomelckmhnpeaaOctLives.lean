/- The laws' small living call. -/
import Derived.Test.YtkomelckmhnpeaaOctSized
namespace Go.Proofs.Ytkomelckmhnpeaa.Oct
open Go.RowKit Mem Ahead

theorem wr_zero (w : World) {base : Nat} (hb : base ≤ w.heap.size) : Wr (w.alloc (.cells #[.slice none 0 0] 40)) base (.pointer (some ⟨w.heap.size, 0, none⟩)) [] (fun k => k = w.heap.size) := by
  refine ⟨w.heap.size, .slice none 0 0, rfl, hb, heap_alloc_new _ _, own_nil8 _ _, small_nil, (fun h => by cases h), ?_⟩
  funext k
  simp [Value.ownBlock]
theorem Wr.other {W W' : World} {base : Nat} {v : Value} {l : List Nat} {F G : Nat → Prop} (h : Wr W base v l F) (ho : Only G W W') (hd : ∀ k, F k → ¬ G k) : Wr W' base v l F :=
  h.keep fun k hk => ho.block k (h.lt k hk).2 (hd k hk)
set_option maxRecDepth 100000 in
set_option maxHeartbeats 2000000 in
theorem lives_any (w : World) : Calls Try.prog 18 #[] w (Tells (.bool true) w) := by
  have CN := Go.Lib.hid (show Calls Try.prog 8 #[.slice (some ⟨w.heap.size, 0, none⟩) 3 3] (w.alloc (.cells #[.int .u8 1, .int .u8 2, .int .u8 3] 5)) (NewF [1, 2, 3] (w.alloc (.cells #[.int .u8 1, .int .u8 2, .int .u8 3] 5))) from
    new_any _ [1, 2, 3] _ (lit8 w [1, 2, 3] #[.int .u8 1, .int .u8 2, .int .u8 3] 3 (by unfold Small; decide) rfl rfl (by decide)) (by decide))
  have HB0 := Go.Lib.hid (show Below w.heap.size w (w.alloc (.cells #[.int .u8 1, .int .u8 2, .int .u8 3] 5)) from (Below.refl _ w).alloc (Nat.le_refl _) _)
  have CW := Go.Lib.hid (fun (v : Value) (base : Nat) (F : Nat → Prop) (W : World) (h1 : Wr W base v [] F) (h2 : base ≤ W.heap.size) => show Calls Try.prog 20 #[v, .int .i64 258] W (AddF base v v [1, 2] F W) from w16_put v base [] F 258 W h1 (by decide) h2)
  have CU := Go.Lib.hid (fun (v : Value) (base n : Nat) (F : Nat → Prop) (W : World) (h : R W base n v [1, 2, 3] false F) => show Calls Try.prog 11 #[v] W (fun e w' => e = .returned (.int .i64 258) ∧ R w' base n v [3] false F ∧ Only F W w') from u16_any v base n [1, 2, 3] false F W (by unfold Small; decide) h)
  have CL := Go.Lib.hid (fun (v : Value) (base n : Nat) (F : Nat → Prop) (W : World) (h : R W base n v [3] false F) => show Calls Try.prog 16 #[v] W (Tells (.int .i64 1) W) from left_any v base n [3] false F W h)
  have CB := Go.Lib.hid (fun (v : Value) (base n : Nat) (F : Nat → Prop) (W : World) (h : R W base n v [3] false F) => show Calls Try.prog 15 #[v] W (Tells (.bool false) W) from bad_any v base n [3] false F W h)
  have CT := Go.Lib.hid (fun (v : Value) (base : Nat) (F : Nat → Prop) (W : World) (h : Wr W base v [1, 2] F) => show Calls Try.prog 26 #[v] W (Gives8 [1, 2] W) from wbytes_any v base [1, 2] F W h (by decide))
  have hs : ((txt [1, 2]).toList == ([1, 2] : List UInt8)) = true := by rw [txt_list]; decide
  go_enter Try.func18, Try.ntmps18
  go_wp2_with (first
    | (go_at_call 8; refine CN.out.mono ?_; rintro e w1 ⟨b, rfl, hR, hb⟩; have B1 := Go.Lib.hid (HB0.out.trans (hb.mono HB0.out.size)); have R2 := Go.Lib.hid (hR.below ((Below.refl _ w1).alloc (Nat.le_refl _) (.cells #[.slice none 0 0] 40))); have Z2 := Go.Lib.hid (wr_zero w1 (base := w1.heap.size) (Nat.le_refl _)); have B2 := Go.Lib.hid (B1.out.alloc B1.out.size (.cells #[.slice none 0 0] 40)); clear hR hb)
    | (go_at_call 20; have h := Z2.out; refine (CW.out _ _ _ _ h (by simp)).mono ?_; rintro e w3 ⟨F3, rfl, hW, ho, hg⟩; have R3 := Go.Lib.hid (R2.out.far ho (fun k hk => by subst hk; exact Nat.le_refl _)); have Z3 := Go.Lib.hid hW; have B3 := Go.Lib.hid (B2.out.trans (ho.below (n := w.heap.size) (fun k hk => by subst hk; exact B1.out.size) B2.out.size)); clear hW ho hg h)
    | (go_at_call 11; have h := R3.out; refine (CU.out _ _ _ _ _ h).mono ?_; rintro e w4 ⟨rfl, hR, ho⟩; have R4 := Go.Lib.hid hR; have Z4 := Go.Lib.hid (Z3.out.other ho (fun k hk hf => by have h1 := (Z3.out.lt k hk).1; have h2 := (h.low k hf).2; omega)); have B4 := Go.Lib.hid (B3.out.trans (ho.below (n := w.heap.size) (fun k hk => Nat.le_trans HB0.out.size (h.low k hk).1) B3.out.size)); clear hR ho h)
    | (go_at_call 16; have h := R4.out; refine (CL.out _ _ _ _ _ h).mono ?_; rintro e w5 ⟨rfl, hb⟩; have R5 := Go.Lib.hid (R4.out.below hb); have Z5 := Go.Lib.hid (Z4.out.below hb); have B5 := Go.Lib.hid (B4.out.trans (hb.mono B4.out.size)); clear hb h)
    | (go_at_call 15; have h := R5.out; refine (CB.out _ _ _ _ _ h).mono ?_; rintro e w6 ⟨rfl, hb⟩; have Z6 := Go.Lib.hid (Z5.out.below hb); have B6 := Go.Lib.hid (B5.out.trans (hb.mono B5.out.size)); clear hb h)
    | (go_at_call 26; have h := Z6.out; refine (CT.out _ _ _ _ h).mono ?_; rintro e w7 ⟨A, c, rfl, hown, hb⟩; have kx : (convert 22 9 (.slice A 2 c)).run Try.prog w7 = .ok (.string (txt [1, 2])) w7 := text8 (U8s.of_own hown (by unfold Small; decide)); have B7 := Go.Lib.hid (B6.out.trans (hb.mono B6.out.size)); clear hown hb h))
  go_ret
  exact ⟨rfl, B7.out⟩
end Go.Proofs.Ytkomelckmhnpeaa.Oct
