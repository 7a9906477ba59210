/- OctetBack: the law's walk. -/
import Derived.Test.YtkomelckmhnpeaaOctBack
import Derived.Outline
import Derived.Deep.DrawnRows
namespace Go.Proofs.Ytkomelckmhnpeaa.Oct
open Go.RowKit Mem Ahead

attribute [local go_sem ↓] Go.wp_at_zero Go.wp_at_succ
/-- Sized of four bytes. -/
theorem sized4 (y : Nat) : sizedS (big y 4) = big 4 1 ++ big y 4 := by
  unfold sizedS
  rw [if_pos (by rw [big_len]; decide), big_len]
  rfl
theorem own_lies {w w1 : World} {base : Nat} {v : Value} {l m : List Nat} {F : Nat → Prop} {A : Option Addr} {n c : Nat} (hW : Wr w base v l F) (ho : w1.ownsRow w.heap.size 5 1 (.slice A n c) n (cells8 m)) : Lies w1.heap.size F (.slice A n c) := fun g hg =>
  ⟨(ho.lt g hg).2, fun hf => by have h1 := (ho.lt g hg).1; have h2 := (hW.lt g hf).2; omega⟩

set_option maxRecDepth 100000 in
set_option maxHeartbeats 4000000 in
theorem back_walk (a b x y : Nat) (ha : a < 256) (hb : b < 65536) (hx : x < 4294967296) (hy : y < 4294967296) (w : World) :
    Calls Try.prog 5 #[.int .u8 a, .int .u16 b, .agg #[.int .u32 x, .int .u32 y]] w (Tells (.bool true) w) := by
  have e0 : (w.alloc (.cells #[.int .u32 (x : Nat), .int .u32 (y : Nat)] 49)).heap.size = w.heap.size + 1 := by simp
  have hbl : Below w.heap.size w ((w.alloc (.cells #[.int .u32 (x : Nat), .int .u32 (y : Nat)] 49)).alloc (.cells #[.slice none 0 0] 40)) := ((Below.refl _ w).alloc (Nat.le_refl _) _).alloc (by rw [e0]; omega) _
  have hz := wr_zero (w.alloc (.cells #[.int .u32 (x : Nat), .int .u32 (y : Nat)] 49)) (base := w.heap.size + 1) (by rw [e0]; exact Nat.le_refl _)
  rw [e0] at hz
  obtain ⟨W1, hW1⟩ : ∃ W1, W1 = (w.alloc (.cells #[.int .u32 (x : Nat), .int .u32 (y : Nat)] 49)).alloc (.cells #[.slice none 0 0] 40) := ⟨_, rfl⟩
  have k0 : W1.cell? ⟨w.heap.size, 0, none⟩ = some (.int .u32 (x : Nat)) := by rw [hW1]; simp
  have k1 : W1.cell? ⟨w.heap.size, 1, none⟩ = some (.int .u32 (y : Nat)) := by rw [hW1]; simp
  have hs1 : W1.heap.size = w.heap.size + 2 := by rw [hW1]; simp
  rw [← hW1] at hbl hz
  have HK := Go.Lib.hid (fun (W : World) (h : Below (w.heap.size + 1) W1 W) => (⟨(h.cell (p := ⟨w.heap.size, 0, none⟩) (by show w.heap.size < _; omega)).trans k0, (h.cell (p := ⟨w.heap.size, 1, none⟩) (by show w.heap.size < _; omega)).trans k1⟩ :
    W.cell? ⟨w.heap.size, 0, none⟩ = some (.int .u32 (x : Nat)) ∧ W.cell? ⟨w.heap.size, 1, none⟩ = some (.int .u32 (y : Nat))))
  have HW := Go.Lib.hid hW1
  have HBL := Go.Lib.hid hbl
  have Z1 := Go.Lib.hid hz
  have B1 := Go.Lib.hid (Below.refl (w.heap.size + 1) W1)
  have HS1 := Go.Lib.hid (show (w.heap.size + 1) ≤ W1.heap.size by omega)
  clear hW1 hs1 hbl hz e0
  have C1 := Go.Lib.hid (fun (F : Nat → Prop) (W : World) (h : Wr W (w.heap.size + 1) (.pointer (some ⟨w.heap.size + 1, 0, none⟩)) [] F) (hs : (w.heap.size + 1) ≤ W.heap.size) => show Calls Try.prog 21 #[(.pointer (some ⟨w.heap.size + 1, 0, none⟩)), .int .u32 x] W (AddF (w.heap.size + 1) (.pointer (some ⟨w.heap.size + 1, 0, none⟩)) (.pointer (some ⟨w.heap.size + 1, 0, none⟩)) (big x 4) F W) from by
    have h1 := w32_put (.pointer (some ⟨w.heap.size + 1, 0, none⟩)) (w.heap.size + 1) [] F x W h (by decide) hs
    rwa [put4, List.nil_append] at h1)
  have C2 := Go.Lib.hid (fun (F : Nat → Prop) (W : World) (h : Wr W (w.heap.size + 1) (.pointer (some ⟨w.heap.size + 1, 0, none⟩)) (big x 4) F) (hs : (w.heap.size + 1) ≤ W.heap.size) => show Calls Try.prog 19 #[(.pointer (some ⟨w.heap.size + 1, 0, none⟩)), .int .i64 a] W (AddF (w.heap.size + 1) (.pointer (some ⟨w.heap.size + 1, 0, none⟩)) (.pointer (some ⟨w.heap.size + 1, 0, none⟩)) (big x 4 ++ big a 1) F W) from by
    have h1 := w8_put (.pointer (some ⟨w.heap.size + 1, 0, none⟩)) (w.heap.size + 1) _ F a W h (by rw [big_len]; decide) hs
    rwa [show [lo8 (a : Int)] = big a 1 by rw [big1, lo8_nat]] at h1)
  have C3 := Go.Lib.hid (fun (F : Nat → Prop) (W : World) (h : Wr W (w.heap.size + 1) (.pointer (some ⟨w.heap.size + 1, 0, none⟩)) (big x 4 ++ big a 1) F) (hs : (w.heap.size + 1) ≤ W.heap.size) => show Calls Try.prog 20 #[(.pointer (some ⟨w.heap.size + 1, 0, none⟩)), .int .i64 b] W (AddF (w.heap.size + 1) (.pointer (some ⟨w.heap.size + 1, 0, none⟩)) (.pointer (some ⟨w.heap.size + 1, 0, none⟩)) ((big x 4 ++ big a 1) ++ big b 2) F W) from by
    have h1 := w16_put (.pointer (some ⟨w.heap.size + 1, 0, none⟩)) (w.heap.size + 1) _ F b W h (by simp [big_len]) hs
    rwa [show [lo8 ((b : Int) / 256), lo8 (b : Int)] = big b 2 by rw [big2, lo8_nat, show lo8 ((b : Int) / 256) = b / 256 % 256 from lo8_div b 256]] at h1)
  have C4 := Go.Lib.hid (fun (W : World) => show Calls Try.prog 22 #[.int .u64 y, .int .i64 4] W (fun e w' => ∃ A c, e = .returned (.slice A 4 c) ∧ w'.ownsRow W.heap.size 5 1 (.slice A 4 c) 4 (cells8 (big y 4)) ∧ Below W.heap.size W w') from (big_any y 4 W (by omega) (by omega)).mono fun e w' (h : Gives8 _ _ _ _) => show ∃ A c, e = .returned (.slice A 4 c) ∧ w'.ownsRow W.heap.size 5 1 (.slice A 4 c) 4 (cells8 (big y 4)) ∧ Below W.heap.size W w' from by
    obtain ⟨A, c, h1, h2, h3⟩ := h
    rw [big_len] at h1 h2
    exact ⟨A, c, h1, h2, h3⟩)
  have C5 := Go.Lib.hid (fun (F : Nat → Prop) (A : Option Addr) (c : Nat) (W : World) (h : Wr W (w.heap.size + 1) (.pointer (some ⟨w.heap.size + 1, 0, none⟩)) ((big x 4 ++ big a 1) ++ big b 2) F) (hs : (w.heap.size + 1) ≤ W.heap.size) (hu : U8s W (.slice A 4 c) (big y 4)) (hL : Lies W.heap.size F (.slice A 4 c)) => show Calls Try.prog 24 #[(.pointer (some ⟨w.heap.size + 1, 0, none⟩)), .slice A 4 c] W (AddF (w.heap.size + 1) (.pointer (some ⟨w.heap.size + 1, 0, none⟩)) (.bool true) (big x 4 ++ (big a 1 ++ (big b 2 ++ (big 4 1 ++ big y 4)))) F W) from by
    have h1 := sized_any (.pointer (some ⟨w.heap.size + 1, 0, none⟩)) A c (w.heap.size + 1) _ (big y 4) F W h (by rw [big_len]; exact hu) (by rw [big_len]; exact hL) (by simp [big_len]) hs
    rw [sized4, big_len, List.append_assoc, List.append_assoc] at h1
    exact h1)
  have S5 : Small (big x 4 ++ (big a 1 ++ (big b 2 ++ (big 4 1 ++ big y 4)))) := (big_small _ _).append ((big_small _ _).append ((big_small _ _).append ((big_small _ _).append (big_small _ _))))
  have N5 : (big x 4 ++ (big a 1 ++ (big b 2 ++ (big 4 1 ++ big y 4)))).length = 12 := by simp [big_len]
  have C6 := Go.Lib.hid (fun (F : Nat → Prop) (W : World) (h : Wr W (w.heap.size + 1) (.pointer (some ⟨w.heap.size + 1, 0, none⟩)) (big x 4 ++ (big a 1 ++ (big b 2 ++ (big 4 1 ++ big y 4)))) F) => show Calls Try.prog 26 #[(.pointer (some ⟨w.heap.size + 1, 0, none⟩))] W (fun e w' => ∃ A c, e = .returned (.slice A 12 c) ∧ U8s w' (.slice A 12 c) (big x 4 ++ (big a 1 ++ (big b 2 ++ (big 4 1 ++ big y 4)))) ∧ Below W.heap.size W w') from
    (wbytes_any (.pointer (some ⟨w.heap.size + 1, 0, none⟩)) (w.heap.size + 1) _ F W h (by rw [N5]; decide)).mono fun e w' ⟨A, c, h1, h2, h3⟩ => ⟨A, c, by rw [N5] at h1; exact h1, by have := U8s.of_own h2 S5; rw [N5] at this; exact this, h3⟩)
  have C7 := Go.Lib.hid (fun (A : Option Addr) (c : Nat) (W : World) (h : U8s W (.slice A 12 c) (big x 4 ++ (big a 1 ++ (big b 2 ++ (big 4 1 ++ big y 4))))) => new_any _ _ W h (by rw [N5]; decide))
  have C8 := Go.Lib.hid (fun (v : Value) (base n : Nat) (F : Nat → Prop) (W : World) (h : R W base n v (big x 4 ++ (big a 1 ++ (big b 2 ++ (big 4 1 ++ big y 4)))) false F) => u32_big v base n x _ F W ((big_small _ _).append ((big_small _ _).append ((big_small _ _).append (big_small _ _)))) hx h)
  have C9 := Go.Lib.hid (fun (v : Value) (base n : Nat) (F : Nat → Prop) (W : World) (h : R W base n v (big a 1 ++ (big b 2 ++ (big 4 1 ++ big y 4))) false F) => u8_big v base n a _ F W ((big_small _ _).append ((big_small _ _).append (big_small _ _))) ha h)
  have C10 := Go.Lib.hid (fun (v : Value) (base n : Nat) (F : Nat → Prop) (W : World) (h : R W base n v (big b 2 ++ (big 4 1 ++ big y 4)) false F) => u16_big v base n b _ F W ((big_small _ _).append (big_small _ _)) hb h)
  have C11 := Go.Lib.hid (fun (v : Value) (base n : Nat) (F : Nat → Prop) (W : World) (h : R W base n v (big 4 1 ++ big y 4) false F) => show Calls Try.prog 9 #[v] W (ReadF base n v F (big y 4) (.int .i64 4) W) from u8_big v base n 4 _ F W (big_small _ _) (by decide) h)
  have C12 := Go.Lib.hid (fun (v : Value) (base n : Nat) (F : Nat → Prop) (W : World) (hn : n ≤ W.heap.size) (h : R W base n v (big y 4) false F) => show Calls Try.prog 14 #[v, .int .i64 4] W (PieceF base n v F (big y 4) [] W) from part_big v base n (big y 4) [] 4 F W (big_len _ _) (by decide) hn (by rw [List.append_nil]; exact h))
  have C13 := Go.Lib.hid (fun (v : Value) (base n : Nat) (F : Nat → Prop) (W : World) (h : R W base n v (big y 4) false F) => u32_big v base n y [] F W small_nil hy (by rw [List.append_nil]; exact h))
  have C14 := Go.Lib.hid (fun (v : Value) (base n : Nat) (F : Nat → Prop) (W : World) (h : R W base n v [] false F) => show Calls Try.prog 16 #[v] W (Tells (.int .i64 0) W) from left_any v base n [] false F W h)
  have C15 := Go.Lib.hid (fun (v : Value) (base n : Nat) (F : Nat → Prop) (W : World) (h : R W base n v [] false F) => bad_any v base n [] false F W h)
  have CL := Go.Lib.hid lives_any
  have ha2 : (a : Int) ≤ 255 := by omega
  have hb2 : (b : Int) ≤ 65535 := by omega
  clear S5 N5 ha hb
  generalize big x 4 ++ (big a 1 ++ (big b 2 ++ (big 4 1 ++ big y 4))) = L5 at C5 C6 C7 C8
  generalize big a 1 ++ (big b 2 ++ (big 4 1 ++ big y 4)) = L4 at C8 C9
  generalize big b 2 ++ (big 4 1 ++ big y 4) = L3 at C9 C10
  generalize big 4 1 ++ big y 4 = L2 at C10 C11
  generalize (big x 4 ++ big a 1) ++ big b 2 = M3 at C3 C5
  generalize big x 4 ++ big a 1 = M2 at C2 C3
  generalize big x 4 = M1 at C1 C2
  have hx2 : (x : Int) ≤ 4294967295 := by omega
  have hy2 : (y : Int) ≤ 4294967295 := by omega
  go_enter Try.func5, Try.ntmps5
  go_wp2_with fail
  try (rw [← HW.out])
  go_wp2_with (first
    | (go_at_call 21; have h := Z1.out; have hs := Nat.le_trans HS1.out B1.out.size; refine (C1.out _ _ h hs).mono ?_; rintro e w2 ⟨F2, rfl, hz, ho, -⟩; have Z2 := Go.Lib.hid hz; have B2 := Go.Lib.hid (B1.out.trans (ho.below (n := (w.heap.size + 1)) (fun k hk => (h.lt k hk).1) hs)); obtain ⟨k0, k1⟩ := HK.out _ B2.out; clear h hs hz ho)
    | (go_at_call 19; have h := Z2.out; have hs := Nat.le_trans HS1.out B2.out.size; refine (C2.out _ _ h hs).mono ?_; rintro e w3 ⟨F3, rfl, hz, ho, -⟩; have Z3 := Go.Lib.hid hz; have B3 := Go.Lib.hid (B2.out.trans (ho.below (n := (w.heap.size + 1)) (fun k hk => (h.lt k hk).1) hs)); obtain ⟨k0, k1⟩ := HK.out _ B3.out; clear h hs hz ho)
    | (go_at_call 20; have h := Z3.out; have hs := Nat.le_trans HS1.out B3.out.size; refine (C3.out _ _ h hs).mono ?_; rintro e w4 ⟨F4, rfl, hz, ho, -⟩; have Z4 := Go.Lib.hid hz; have B4 := Go.Lib.hid (B3.out.trans (ho.below (n := (w.heap.size + 1)) (fun k hk => (h.lt k hk).1) hs)); obtain ⟨k0, k1⟩ := HK.out _ B4.out; clear h hs hz ho)
    | (go_at_call 22; refine (C4.out _).mono ?_; rintro e w5 ⟨A5, c5, rfl, hown, hb5⟩; have U5 := Go.Lib.hid (U8s.of_own hown (big_small _ _)); have L5' := Go.Lib.hid (own_lies Z4.out hown); have Z5 := Go.Lib.hid (Z4.out.below hb5); have B5 := Go.Lib.hid (B4.out.trans (hb5.mono (Nat.le_trans HS1.out B4.out.size))); clear hown hb5)
    | (go_at_call 24; have h := Z5.out; have hs := Nat.le_trans HS1.out B5.out.size; have hu := U5.out; have hl := L5'.out; refine (C5.out _ _ _ _ h hs hu hl).mono ?_; rintro e w6 ⟨F6, rfl, hz, ho, -⟩; have Z6 := Go.Lib.hid hz; have B6 := Go.Lib.hid (B5.out.trans (ho.below (n := (w.heap.size + 1)) (fun k hk => (h.lt k hk).1) hs)); clear h hs hz ho hu hl)
    | (go_at_call 26; have h := Z6.out; refine (C6.out _ _ h).mono ?_; rintro e w7 ⟨A7, c7, rfl, hu, hb7⟩; have U7 := Go.Lib.hid hu; have B7 := Go.Lib.hid (B6.out.trans (hb7.mono (Nat.le_trans HS1.out B6.out.size))); clear h hu hb7)
    | (go_at_call 8; have h := U7.out; refine (C7.out _ _ _ h).mono ?_; rintro e w8 ⟨b8, rfl, hr, hb8⟩; have R8 := Go.Lib.hid hr; have B8 := Go.Lib.hid (B7.out.trans (hb8.mono (Nat.le_trans HS1.out B7.out.size))); have N8 := Go.Lib.hid (Nat.le_refl w8.heap.size); have HS8 := Go.Lib.hid (Nat.le_trans HS1.out B7.out.size); clear h hr hb8)
    | (go_at_call 12; have h := R8.out; refine (C8.out _ _ _ _ _ h).mono ?_; rintro e w9 ⟨rfl, hr, ho⟩; have R9 := Go.Lib.hid hr; have B9 := Go.Lib.hid (B8.out.trans (ho.below (n := (w.heap.size + 1)) (fun k hk => Nat.le_trans HS8.out (h.low k hk).1) (Nat.le_trans HS1.out B8.out.size))); have N9 := Go.Lib.hid (Nat.le_trans N8.out ho.size); clear h hr ho)
    | (go_at_call 9; have h := R11.out; refine (C11.out _ _ _ _ _ h).mono ?_; rintro e w12 ⟨rfl, hr, ho⟩; have R12 := Go.Lib.hid hr; have B12 := Go.Lib.hid (B11.out.trans (ho.below (n := (w.heap.size + 1)) (fun k hk => Nat.le_trans HS8.out (h.low k hk).1) (Nat.le_trans HS1.out B11.out.size))); have N12 := Go.Lib.hid (Nat.le_trans N11.out ho.size); clear h hr ho)
    | (go_at_call 9; have h := R9.out; refine (C9.out _ _ _ _ _ h).mono ?_; rintro e w10 ⟨rfl, hr, ho⟩; have R10 := Go.Lib.hid hr; have B10 := Go.Lib.hid (B9.out.trans (ho.below (n := (w.heap.size + 1)) (fun k hk => Nat.le_trans HS8.out (h.low k hk).1) (Nat.le_trans HS1.out B9.out.size))); have N10 := Go.Lib.hid (Nat.le_trans N9.out ho.size); clear h hr ho)
    | (go_at_call 11; have h := R10.out; refine (C10.out _ _ _ _ _ h).mono ?_; rintro e w11 ⟨rfl, hr, ho⟩; have R11 := Go.Lib.hid hr; have B11 := Go.Lib.hid (B10.out.trans (ho.below (n := (w.heap.size + 1)) (fun k hk => Nat.le_trans HS8.out (h.low k hk).1) (Nat.le_trans HS1.out B10.out.size))); have N11 := Go.Lib.hid (Nat.le_trans N10.out ho.size); clear h hr ho)
    | (go_at_call 14; have h := R12.out; have hn := N12.out; refine (C12.out _ _ _ _ _ hn h).mono ?_; rintro e w13 ⟨b13, rfl, hlt, hp, hr, ho⟩; have R13 := Go.Lib.hid hr; have P13 := Go.Lib.hid hp; have B13 := Go.Lib.hid (B12.out.trans (ho.below (n := (w.heap.size + 1)) (fun k hk => Nat.le_trans HS8.out (h.low k hk).1) (Nat.le_trans HS1.out B12.out.size))); have N13 := Go.Lib.hid (Nat.le_trans N12.out hlt); have H12 := Go.Lib.hid (Nat.le_trans HS1.out B12.out.size); clear h hn hr hp ho hlt))
  have D13 := Go.Lib.hid (show Below w13.heap.size w13 w13.drew from (Below.refl _ w13).drew)
  have P14 := Go.Lib.hid (P13.out.below D13.out)
  have R14 := Go.Lib.hid (R13.out.below D13.out)
  have B14 := Go.Lib.hid (B13.out.trans (D13.out.mono (Nat.le_trans HS1.out B13.out.size)))
  have k14 := HK.out _ B14.out
  clear k0 k1
  have wa : IntKind.i64.wrap (a : Int) = a := by rw [IntKind.wrap_i64]; omega
  have wb : IntKind.i64.wrap (b : Int) = b := by rw [IntKind.wrap_i64]; omega
  go_region_held3 (fun w' => w'.cell? ⟨w.heap.size, 0, none⟩ = some (.int .u32 (x : Nat)) ∧ w'.cell? ⟨w.heap.size, 1, none⟩ = some (.int .u32 (y : Nat))) (assumption) (first
    | (go_at_call 12; have h := P14.out; refine (C13.out _ _ _ _ _ h).mono ?_; rintro e w15 ⟨rfl, hp, ho⟩; have P15 := Go.Lib.hid hp; have R15 := Go.Lib.hid (R14.out.far ho (fun k hk => by subst hk; exact N13.out)); have B15 := Go.Lib.hid (B14.out.trans (ho.below (n := (w.heap.size + 1)) (fun k hk => Nat.le_trans H12.out (h.low k hk).1) (Nat.le_trans HS1.out B14.out.size))); have k15 := HK.out _ B15.out; clear h hp ho k14)
    | (go_at_call 16; have h := R15.out; refine (C14.out _ _ _ _ _ h).mono ?_; rintro e w16 ⟨rfl, hb16⟩; have P16 := Go.Lib.hid (P15.out.below hb16); have R16 := Go.Lib.hid (R15.out.below hb16); have B16 := Go.Lib.hid (B15.out.trans (hb16.mono (Nat.le_trans HS1.out B15.out.size))); have k16 := HK.out _ B16.out; clear h hb16 k15)
    | (go_at_call 15; have h := P17.out; refine (C15.out _ _ _ _ _ h).mono ?_; rintro e w18 ⟨rfl, hb18⟩; have B18 := Go.Lib.hid (B17.out.trans (hb18.mono (Nat.le_trans HS1.out B17.out.size))); have k18 := HK.out _ B18.out; clear h hb18 k17)
    | (go_at_call 15; have h := R16.out; refine (C15.out _ _ _ _ _ h).mono ?_; rintro e w17 ⟨rfl, hb17⟩; have P17 := Go.Lib.hid (P16.out.below hb17); have B17 := Go.Lib.hid (B16.out.trans (hb17.mono (Nat.le_trans HS1.out B16.out.size))); have k17 := HK.out _ B17.out; clear h hb17 k16)
    | (go_at_call 18; refine (CL.out _).mono ?_; rintro e w19 ⟨rfl, hb19⟩; have B19 := Go.Lib.hid (B18.out.trans (hb19.mono (Nat.le_trans HS1.out B18.out.size))); have k19 := HK.out _ B19.out; clear hb19 k18))
  all_goals go_wp2
  all_goals go_ret
  all_goals exact ⟨rfl, HBL.out.trans (B19.out.mono (Nat.le_succ _))⟩
end Go.Proofs.Ytkomelckmhnpeaa.Oct
