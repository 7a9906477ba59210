/- What was written is read again: bytes of numbers, ahead of other bytes. -/
import Derived.Test.YtkkfnpacejdlnaaOctLives
namespace Go.Proofs.Ytkkfnpacejdlnaa.Oct
open Go.RowKit Mem Ahead

theorem big1 (n : Nat) : big n 1 = [n % 256] := by simp [big]
theorem big2 (n : Nat) : big n 2 = [n / 256 % 256, n % 256] := by simp [big]
theorem big4 (n : Nat) : big n 4 = [n / 16777216 % 256, n / 65536 % 256, n / 256 % 256, n % 256] := by simp [big]
theorem lo8_nat (n : Nat) : lo8 (n : Int) = n % 256 := by unfold lo8; omega
theorem lo8_div (n d : Nat) : lo8 ((n : Int) / (d : Int)) = n / d % 256 := by
  rw [← Int.natCast_ediv]
  exact lo8_nat _
theorem lo8_mod (n : Int) : lo8 n = (n % 18446744073709551616).toNat % 256 := by unfold lo8; omega
theorem lo8_mod2 (n : Int) : lo8 (n / 256) = (n % 18446744073709551616).toNat / 256 % 256 := by unfold lo8; omega
theorem put1 (n : Int) : [lo8 n] = big (n % 18446744073709551616).toNat 1 := by rw [big1, lo8_mod]
theorem put2 (n : Int) : [lo8 (n / 256), lo8 n] = big (n % 18446744073709551616).toNat 2 := by rw [big2, lo8_mod2, lo8_mod n]
theorem put4 (n : Nat) : [lo8 (n / 16777216 : Int), lo8 (n / 65536 : Int), lo8 (n / 256 : Int), lo8 n] = big n 4 := by
  rw [big4, lo8_nat]
  have h1 : lo8 (n / 16777216 : Int) = n / 16777216 % 256 := lo8_div n 16777216
  have h2 : lo8 (n / 65536 : Int) = n / 65536 % 256 := lo8_div n 65536
  have h3 : lo8 (n / 256 : Int) = n / 256 % 256 := lo8_div n 256
  rw [h1, h2, h3]
theorem val_big1 {n : Nat} (h : n < 256) : val (big n 1) = n := by rw [big1]; simp [val]; omega
theorem val_big2 {n : Nat} (h : n < 65536) : val (big n 2) = n := by rw [big2]; simp [val]; omega
theorem val_big4 {n : Nat} (h : n < 4294967296) : val (big n 4) = n := by rw [big4]; simp [val]; omega
theorem fails_app {A B : List Nat} {k : Nat} (h : A.length = k) : fails (A ++ B) false (k : Int) = false := by
  simp only [fails, Bool.false_or, Bool.or_eq_false_iff, decide_eq_false_iff_not, List.length_append]
  omega
theorem got_app {A B : List Nat} {k : Nat} (h : A.length = k) : got (A ++ B) false (k : Int) = A := by
  unfold got
  rw [fails_app h, if_neg (by decide), Int.toNat_natCast, List.take_left' h]
theorem rest_app {A B : List Nat} {k : Nat} (h : A.length = k) : rest (A ++ B) false (k : Int) = B := by
  unfold rest
  rw [fails_app h, if_neg (by decide), Int.toNat_natCast, List.drop_left' h]
/-- What reading a number that stands ahead gives. -/
def ReadF (base n : Nat) (v : Value) (F : Nat → Prop) (B : List Nat) (x : Value) (w : World) (e : Ending) (w' : World) : Prop :=
  e = .returned x ∧ R w' base n v B false F ∧ Only F w w'
theorem read_of {base n : Nat} {v x : Value} {F : Nat → Prop} {A B : List Nat} {k : Nat} {w w' : World} {e : Ending} (hk : A.length = k) (h : NumF base n v F (A ++ B) false (k : Int) x w e w') : ReadF base n v F B x w e w' := by
  obtain ⟨h1, h2, h3⟩ := h
  rw [rest_app hk, fails_app hk] at h2
  exact ⟨h1, h2, h3⟩
theorem u8_big (v : Value) (base n : Nat) (x : Nat) (B : List Nat) (F : Nat → Prop) (w : World) (hB : Small B) (hx : x < 256) (hR : R w base n v (big x 1 ++ B) false F) :
    Calls Try.prog 29 #[v] w (ReadF base n v F B (.int .i64 x) w) := by
  have h := u8_any v base n _ false F w ((big_small x 1).append hB) hR
  rw [show (1 : Int) = ((1 : Nat) : Int) from rfl, got_app (big_len x 1), val_big1 hx] at h
  exact h.mono fun e w' h => read_of (big_len x 1) h
theorem u16_big (v : Value) (base n : Nat) (x : Nat) (B : List Nat) (F : Nat → Prop) (w : World) (hB : Small B) (hx : x < 65536) (hR : R w base n v (big x 2 ++ B) false F) :
    Calls Try.prog 30 #[v] w (ReadF base n v F B (.int .i64 x) w) := by
  have h := u16_any v base n _ false F w ((big_small x 2).append hB) hR
  rw [show (2 : Int) = ((2 : Nat) : Int) from rfl, got_app (big_len x 2), val_big2 hx] at h
  exact h.mono fun e w' h => read_of (big_len x 2) h
theorem u32_big (v : Value) (base n : Nat) (x : Nat) (B : List Nat) (F : Nat → Prop) (w : World) (hB : Small B) (hx : x < 4294967296) (hR : R w base n v (big x 4 ++ B) false F) :
    Calls Try.prog 31 #[v] w (ReadF base n v F B (.int .u32 x) w) := by
  have h := u32_any v base n _ false F w ((big_small x 4).append hB) hR
  rw [show (4 : Int) = ((4 : Nat) : Int) from rfl, got_app (big_len x 4), val_big4 hx] at h
  exact h.mono fun e w' h => read_of (big_len x 4) h
/-- A part of what stands ahead. -/
def PieceF (base n : Nat) (v : Value) (F : Nat → Prop) (A B : List Nat) (w : World) (e : Ending) (w' : World) : Prop :=
  ∃ b, e = .returned (.pointer (some ⟨b, 0, none⟩)) ∧ w.heap.size ≤ b ∧ R w' w.heap.size w'.heap.size (.pointer (some ⟨b, 0, none⟩)) A false (fun k => k = b) ∧ R w' base n v B false F ∧ Only F w w'
theorem part_big (v : Value) (base n : Nat) (A B : List Nat) (k : Nat) (F : Nat → Prop) (w : World) (hA : A.length = k) (hk : k ≤ 1000) (hn : n ≤ w.heap.size) (hR : R w base n v (A ++ B) false F) :
    Calls Try.prog 45 #[v, .int .i64 k] w (PieceF base n v F A B w) :=
  (part_any v base n _ false F k (by simp [Lit.wf, IntKind.min, IntKind.max, IntKind.signed, IntKind.bits]; omega) w hn hR).mono fun e w' ⟨b, h1, h2, h3, h4, h5⟩ => by
    rw [got_app hA, fails_app hA] at h3
    rw [rest_app hA, fails_app hA] at h4
    exact ⟨b, h1, h2, h3, h4, h5⟩
end Go.Proofs.Ytkkfnpacejdlnaa.Oct
