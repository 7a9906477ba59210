/- OctetWrites: what is written, and how it is kept. -/
import Derived.Test.YtkomelckmhnpeaaOctState
import Derived.Outline
import Derived.Deep.DrawnRows
import Derived.Laws.MakeOwn
namespace Go.Proofs.Ytkomelckmhnpeaa.Oct
open Go.RowKit Mem Ahead

def u64 (n : Int) : Nat := (n % 18446744073709551616).toNat
def u32 (n : Int) : Nat := (n % 4294967296).toNat
theorem u64_lt (n : Int) : u64 n < 18446744073709551616 := by unfold u64; omega
theorem u32_lt (n : Int) : u32 n < 4294967296 := by unfold u32; omega
theorem wrap_u64 (n : Int) : IntKind.u64.wrap n = (u64 n : Int) := by rw [IntKind.wrap_u64]; unfold u64; omega
theorem wrap_u32 (n : Int) : IntKind.u32.wrap n = (u32 n : Int) := by rw [IntKind.wrap_u32]; unfold u32; omega
theorem big_u32 (n : Int) : big (u32 n) 4 = big (u64 n) 4 := by
  have h : u32 n = u64 n % 4294967296 := by unfold u32 u64; omega
  rw [h, big4, big4]
  congr 1
  · omega
  congr 1
  · omega
  congr 1
  · omega
  congr 1
  omega
/-- What the three numbers are written as. -/
def nums (n0 n1 n2 : Int) : List Nat := (big (u64 n0) 1 ++ big (u64 n1) 2) ++ big (u64 n2) 4
theorem nums_len (n0 n1 n2 : Int) : (nums n0 n1 n2).length = 7 := by simp [nums, big_len]
theorem nums_small (n0 n1 n2 : Int) : Small (nums n0 n1 n2) := ((big_small _ _).append (big_small _ _)).append (big_small _ _)
/-- What the reference's Big gives, at a numeral. -/
def BigF (k : Nat) (l : List Nat) (w : World) (e : Ending) (w' : World) : Prop :=
  ∃ A c, e = .returned (.slice A k c) ∧ w'.ownsRow w.heap.size 5 1 (.slice A k c) k (cells8 l) ∧ Below w.heap.size w w'
theorem big_gives (n k : Nat) (w : World) (hn : n < 18446744073709551616) (hk : k ≤ 4) : Calls Try.prog 22 #[.int .u64 n, .int .i64 k] w (BigF k (big n k) w) :=
  (big_any n k w hn hk).mono fun e w' ⟨A, c, h1, h2, h3⟩ => by
    rw [big_len] at h1 h2
    exact ⟨A, c, h1, h2, h3⟩
theorem sized_ok {l : List Nat} (h : l.length ≤ 255) : sizedS l = [l.length] ++ l := by
  unfold sizedS
  rw [if_pos h, lo8_nat, Nat.mod_eq_of_lt (by omega)]
theorem long_ok {l : List Nat} (h : l.length ≤ 300) : longS l = big l.length 2 ++ l := by
  unfold longS
  rw [if_pos (by omega), big2, lo8_nat, show lo8 ((l.length : Int) / 256) = l.length / 256 % 256 from lo8_div l.length 256]
theorem St.row_ {base : Nat} {P v : Value} {l m : List Nat} {F : Nat → Prop} {W : World} {n : Nat} (h : St base P l F v m W) (hn : m.length = n) : W.ownsRow base 5 1 v n (cells8 m) := hn ▸ h.row
theorem St.text {base : Nat} {P v : Value} {l m : List Nat} {F : Nat → Prop} {W : World} (h : St base P l F v m W) : (convert 22 9 v).run Try.prog W = .ok (.string (txt m)) W := text8 (U8s.of_own h.row h.small)
theorem grow_len {m k : List Nat} {n j : Nat} (h : m.length = n) (hk : k.length = j) : n + j = (m ++ k).length := by rw [List.length_append, h, hk]
theorem one_byte (x : Nat) : ∀ u ∈ cells8 [x], u.oneCell' = true := ones8 _
theorem long_cases (n : Int) : n < 65530 ∨ 65540 < n ∨ (∃ k : Nat, n = k ∧ 65530 ≤ k ∧ k ≤ 65535) ∨ ∃ k : Nat, n = k ∧ 65535 < k ∧ k ≤ 65540 := by
  by_cases h1 : n < 65530
  · exact .inl h1
  by_cases h2 : 65540 < n
  · exact .inr (.inl h2)
  obtain ⟨k, rfl⟩ := Int.eq_ofNat_of_zero_le (show 0 ≤ n by omega)
  by_cases h3 : k ≤ 65535
  · exact .inr (.inr (.inl ⟨k, rfl, by omega, h3⟩))
  · exact .inr (.inr (.inr ⟨k, rfl, by omega, by omega⟩))
theorem made8 (k : Nat) : madeCells #[Value.int .u8 0] k = (List.replicate k (Value.int .u8 0)).toArray := by
  apply Array.ext'
  rw [List.toList_toArray]
  refine List.ext_getElem (by simp [madeCells]) fun j h1 h2 => ?_
  simp [madeCells, Nat.mod_one]
theorem cells_rep (k : Nat) : cells8 (List.replicate k 0) = List.replicate k (Value.int .u8 0) := by simp [cells8]
/-- The library's make, of bytes. -/
theorem make8 (k : Nat) (hk : k ≤ 100000) (W : World) : (Instr.makeSlice 22 (.int .i64 (k : Int)) (.int .i64 (k : Int))).run Try.prog W = .ok (.slice (some ⟨W.heap.size, 0, none⟩) k k) (W.alloc (.cells (Array.replicate k (Value.int .u8 0)) 5)) := by
  obtain ⟨i0, E0⟩ := elem8
  have h := run_make (P := Try.prog) (w := W) 22 5 i0 (.int .u8 0) E0.ht E0.hi E0.hz .i64 .i64 (k : Int) (k : Int) (by omega) (by omega) (by rw [E0.hby]; omega) (by omega)
  simp only [Int.toNat_natCast, E0.hsize, Nat.mul_one, Value.cells] at h
  rw [made8] at h
  rw [h]
  simp
/-- Long, of so many zero bytes that were just made. -/
theorem long_made {base : Nat} {P v : Value} {l m : List Nat} {F : Nat → Prop} {W : World} (h : St base P l F v m W) (hl : l.length ≤ 2000) (k : Nat) (hk : k ≤ 65540) :
    Calls Try.prog 25 #[P, .slice (some ⟨W.heap.size, 0, none⟩) k k] (W.alloc (.cells (Array.replicate k (Value.int .u8 0)) 5)) (fun e w' => e = .returned (.bool (decide (k ≤ 65535))) ∧ Below base W w') := by
  have hr : (List.replicate k 0).length = k := List.length_replicate
  have hb : Below W.heap.size W (W.alloc (.cells (Array.replicate k (Value.int .u8 0)) 5)) := (Below.refl _ W).alloc (Nat.le_refl _) _
  have hu := lit8 W (List.replicate k 0) (Array.replicate k (Value.int .u8 0)) k (fun y hy => by rw [(List.mem_replicate.1 hy).2]; decide) (by rw [cells_rep]; simp) hr.symm (by omega)
  have hs : (W.alloc (.cells (Array.replicate k (Value.int .u8 0)) 5)).heap.size = W.heap.size + 1 := by simp
  have s1 := h.below hb
  have hL : Lies (W.alloc (.cells (Array.replicate k (Value.int .u8 0)) 5)).heap.size F (.slice (some ⟨W.heap.size, 0, none⟩) k k) := fun g hg => by
    have hg2 : W.heap.size = g := by simpa [Value.ownBlock] using hg
    subst hg2
    exact ⟨by omega, fun hf => by have := (h.wr.lt _ hf).2; omega⟩
  have C := long_any P (some ⟨W.heap.size, 0, none⟩) k base l (List.replicate k 0) F _ s1.wr (by rw [hr]; exact hu) (by rw [hr]; exact hL) (by rw [hr]; omega) s1.le
  rw [hr] at C
  exact C.mono fun e w' ⟨F', he, _, ho, _⟩ => ⟨he, (hb.mono h.le).trans (s1.only ho)⟩
end Go.Proofs.Ytkomelckmhnpeaa.Oct
