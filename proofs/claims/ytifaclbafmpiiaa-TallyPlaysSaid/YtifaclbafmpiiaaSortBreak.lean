/- The sort of numbers of 32 bits: the patterns broken. -/
import Derived.Test.YtifaclbafmpiiaaSortPivot
import Derived.Test.YtifaclbafmpiiaaShelf
import Derived.Sort.Walk7a
import Derived.Sort.WalkA14
import Derived.Laws.Bits64
import Derived.Sort.LotD1
import Derived.BigRegion
namespace Go.Proofs.Ytifaclbafmpiiaa.Srt
open Go.RowKit Go.Sort

/-- A word of 64 bits lies in its cell. -/
def Word (rb X : Nat) (w : World) : Prop := w.cell? ⟨rb, 0, none⟩ = some (.int .u64 X) ∧ w.frozen? ⟨rb, 0, none⟩ = false
def Nexts (rb : Nat) (w : World) (e : Ending) (w' : World) : Prop := ∃ Y : Nat, e = .returned (.int .u64 Y) ∧ Y < 18446744073709551616 ∧ Word rb Y w' ∧ Below rb w w'
theorem word_set {w : World} {rb X : Nat} (h : Word rb X w) (Y : Nat) : Word rb Y (w.setCell ⟨rb, 0, none⟩ (.int .u64 Y)) := by
  obtain ⟨c, e, f, h1, h2⟩ := cells_of_cell? h.1
  refine ⟨?_, ?_⟩
  · rw [setCell_eq, cell?_mapBlock _ _ _ _ h1]
    have : 0 < c.size := by
      rcases Nat.eq_zero_or_pos c.size with h | h
      · rw [Array.getElem?_eq_none (by omega)] at h2; cases h2
      · exact h
    rw [Array.getElem?_setIfInBounds_self_of_lt this]
  · rw [setCell_eq, frozen?_mapBlock]; exact h.2
theorem mix_left (X c : Nat) (hX : X < 18446744073709551616) : ∃ A : Nat, A < 18446744073709551616 ∧ bits .xor .u64 (X : Int) (IntKind.u64.wrap ((X : Int) * (c : Int))) = (A : Int) :=
  ⟨X ^^^ (X * c % 18446744073709551616), Nat.xor_lt_two_pow (n := 64) (by omega) (by omega), by
    rw [IntKind.wrap_u64, show ((X : Int) * (c : Int) % 18446744073709551616) = ((X * c % 18446744073709551616 : Nat) : Int) by simp, bits_xor_u64_nat _ _ hX (by omega)]⟩
theorem mix_right (X : Nat) (hX : X < 18446744073709551616) : ∃ A : Nat, A < 18446744073709551616 ∧ bits .xor .u64 (X : Int) ((X : Int) / 128) = (A : Int) :=
  ⟨X ^^^ (X / 128), Nat.xor_lt_two_pow (n := 64) (by omega) (by omega), by
    rw [show ((X : Int) / 128) = ((X / 128 : Nat) : Int) by omega, bits_xor_u64_nat _ _ hX (by omega)]⟩

set_option maxRecDepth 100000 in
set_option maxHeartbeats 4000000 in
theorem next_any (rb X : Nat) (hX : X < 18446744073709551616) (w : World) (h : Word rb X w) :
    Calls Try.prog 44 #[.pointer (some ⟨rb, 0, none⟩)] w (Nexts rb w) := by
  obtain ⟨A, lA, (e1 : bits .xor .u64 (X : Int) (IntKind.u64.wrap ((X : Int) * 8192)) = (A : Int))⟩ := mix_left X 8192 hX
  obtain ⟨B, lB, e2⟩ := mix_right A lA
  obtain ⟨C, lC, (e3 : bits .xor .u64 (B : Int) (IntKind.u64.wrap ((B : Int) * 131072)) = (C : Int))⟩ := mix_left B 131072 lB
  have HW := Go.Lib.hid h
  obtain ⟨hc, hf⟩ := h
  have hss : ∀ v v', (w.setCell ⟨rb, 0, none⟩ v).setCell ⟨rb, 0, none⟩ v' = w.setCell ⟨rb, 0, none⟩ v' := setCell_setCell w rb 0
  go_enter Try.func44, Try.ntmps44
  go_wp2
  go_region
  all_goals go_wp2
  all_goals go_region
  all_goals go_wp2
  all_goals go_region
  all_goals go_wp2
  all_goals go_ret
  all_goals exact ⟨C, rfl, lC, word_set (w := w) HW.out C, ((RowKit.Below.refl rb w).setCell (p := ⟨rb, 0, none⟩) (Nat.le_refl _) _).trans (below_drewN rb _ 3)⟩

/-- The least power of two above. -/
def Power (n : Nat) (w : World) (e : Ending) (w' : World) : Prop := ∃ M : Nat, e = .returned (.int .u64 M) ∧ (1 ≤ M ∧ M ≤ 8192) ∧ M ≤ 2 * n ∧ w' = w
set_option maxHeartbeats 2000000 in
theorem power_any (n : Nat) (hn : 8 ≤ n) (hn2 : n < 8192) (w : World) : Calls Try.prog 43 #[.int .i64 n] w (Power n w) := by
  have hk := bitsLen_le_iff n
  have h6 := (hk 13).2 (by omega)
  have CB := Go.Lib.hid (fun w => Try.bits_Len (n : Int) w (by omega) (by omega))
  have e : Lib.bitLen (n : Int).toNat = bitsLen n := by rw [Int.toNat_natCast]; exact bitLen_eq _ (by omega)
  rw [e] at CB
  have h3 : ¬ bitsLen n ≤ 3 := fun h => by have := (hk 3).1 h; omega
  have hw : IntKind.u64.wrap (n : Int) = n := by rw [IntKind.wrap_u64]; omega
  have hc : (bitsLen n = 4 ∧ 8 ≤ n) ∨ (bitsLen n = 5 ∧ 16 ≤ n) ∨ (bitsLen n = 6 ∧ 32 ≤ n) ∨ (bitsLen n = 7 ∧ 64 ≤ n) ∨ (bitsLen n = 8 ∧ 128 ≤ n) ∨ (bitsLen n = 9 ∧ 256 ≤ n) ∨ (bitsLen n = 10 ∧ 512 ≤ n) ∨ (bitsLen n = 11 ∧ 1024 ≤ n) ∨ (bitsLen n = 12 ∧ 2048 ≤ n) ∨ (bitsLen n = 13 ∧ 4096 ≤ n) := by
    have a4 := hk 4
    have a5 := hk 5
    have a6 := hk 6
    have a7 := hk 7
    have a8 := hk 8
    have a9 := hk 9
    have a10 := hk 10
    have a11 := hk 11
    have a12 := hk 12
    omega
  clear hk h6 e h3
  rcases hc with ⟨h, h2⟩ | ⟨h, h2⟩ | ⟨h, h2⟩ | ⟨h, h2⟩ | ⟨h, h2⟩ | ⟨h, h2⟩ | ⟨h, h2⟩ | ⟨h, h2⟩ | ⟨h, h2⟩ | ⟨h, h2⟩
  all_goals rw [h] at CB; clear h
  all_goals
    go_enter Try.func43, Try.ntmps43
    go_wp2_with (first | (go_at_call 30; refine (CB.out _).mono ?_; rintro e w1 ⟨rfl, rfl⟩))
    go_ret
    first
    | exact ⟨16, rfl, by omega, by omega, rfl⟩
    | exact ⟨32, rfl, by omega, by omega, rfl⟩
    | exact ⟨64, rfl, by omega, by omega, rfl⟩
    | exact ⟨128, rfl, by omega, by omega, rfl⟩
    | exact ⟨256, rfl, by omega, by omega, rfl⟩
    | exact ⟨512, rfl, by omega, by omega, rfl⟩
    | exact ⟨1024, rfl, by omega, by omega, rfl⟩
    | exact ⟨2048, rfl, by omega, by omega, rfl⟩
    | exact ⟨4096, rfl, by omega, by omega, rfl⟩
    | exact ⟨8192, rfl, by omega, by omega, rfl⟩

/-- The row is turned about within the part. -/
def Turned (blk off a b : Nat) (d : Array Nat) (w : World) (e : Ending) (w' : World) : Prop :=
  e = .returned (.tuple #[]) ∧ ∃ d', Hid (PermIn a b d d') ∧ Holds encN w' blk off d' ∧ Below blk w w'
theorem word_new (w : World) (X : Nat) (T : TypeId) : Word w.heap.size X (w.alloc (Obj.cells #[.int .u64 X] T)) :=
  ⟨by rw [World.cell?_alloc_at _ _ _ _ rfl]; rfl, by rw [World.frozen?_alloc_at _ _ _ _ rfl]⟩
theorem perm_refl (d : Array Nat) (a b : Nat) : PermIn a b d d := permIn_refl d a b
theorem perm_swap {a b i j : Nat} {d dk : Array Nat} (h : PermIn a b d dk) (hi : a ≤ i ∧ i < b) (hj : a ≤ j ∧ j < b) (hb : b ≤ d.size) : PermIn a b d (swp dk i j) :=
  permIn_trans _ _ _ a b h (swp_permIn dk a b i j hi.1 hi.2 hj.1 hj.2 (by rw [h.1]; exact hb))
end Go.Proofs.Ytifaclbafmpiiaa.Srt
