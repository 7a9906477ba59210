/- The sort of numbers of 32 bits: the choice of the pivot. -/
import Derived.Test.YtifaclbafmpiiaaSortKit
namespace Go.Proofs.Ytifaclbafmpiiaa.Srt
open Go.RowKit Go.Sort

/-- A count of swaps lies in its cell. -/
def Count (sb s : Nat) (w : World) : Prop := w.cell? ⟨sb, 0, none⟩ = some (.int .i64 s) ∧ w.frozen? ⟨sb, 0, none⟩ = false
/-- Two places of the part, in one order or the other. -/
def Two (lo hi sb s : Nat) (w : World) (e : Ending) (w' : World) : Prop :=
  ∃ x y t : Nat, e = .returned (.tuple #[.int .i64 x, .int .i64 y]) ∧ Hid (lo ≤ x ∧ x < hi ∧ lo ≤ y ∧ y < hi ∧ t ≤ s + 1) ∧ Count sb t w' ∧ Below sb w w'
def One (lo hi sb s : Nat) (w : World) (e : Ending) (w' : World) : Prop :=
  ∃ x t : Nat, e = .returned (.int .i64 x) ∧ Hid (lo ≤ x ∧ x < hi ∧ t ≤ s) ∧ Count sb t w' ∧ Below sb w w'
theorem holds_below {B blk off : Nat} {d : Array Nat} {w w' : World} (h : Holds encN w blk off d) (hb : Below B w w') (hB : blk < B) : Holds encN w' blk off d := fun j hj =>
  ⟨by rw [hb.cell hB]; exact (h j hj).1, by rw [hb.frozen hB]; exact (h j hj).2⟩
theorem below_drewN (B : Nat) (w : World) (n : Nat) : Below B w (w.drewN n) := ⟨rfl, rfl, rfl, by simp, fun k _ => by simp⟩
theorem count_set {w : World} {sb s : Nat} (h : Count sb s w) (t : Nat) : Count sb t (w.setCell ⟨sb, 0, none⟩ (.int .i64 t)) := by
  obtain ⟨c, e, f, h1, h2⟩ := cells_of_cell? h.1
  refine ⟨?_, ?_⟩
  · rw [setCell_eq, cell?_mapBlock _ _ _ _ h1]
    have : 0 < c.size := by
      rcases Nat.eq_zero_or_pos c.size with h | h
      · rw [Array.getElem?_eq_none (by omega)] at h2; cases h2
      · exact h
    rw [Array.getElem?_setIfInBounds_self_of_lt this]
  · rw [setCell_eq, frozen?_mapBlock]; exact h.2

set_option maxHeartbeats 1000000 in
theorem order2_any (blk off cap sb lo hi a b s : Nat) (d : Array Nat) (w : World) (hH : Holds encN w blk off d) (hab : lo ≤ a ∧ a < hi ∧ lo ≤ b ∧ b < hi) (hhi : hi ≤ d.size) (hs : s ≤ 1000) (hc : Count sb s w) :
    Calls Try.prog 48 #[.slice (some ⟨blk, off, none⟩) d.size cap, .int .i64 a, .int .i64 b, .pointer (some ⟨sb, 0, none⟩)] w (Two lo hi sb s w) := by
  have CL := Go.Lib.hid less_q
  have HC := Go.Lib.hid hc
  have HAB := Go.Lib.hid hab
  obtain ⟨cs, fs⟩ := hc
  have ha : a < d.size := by omega
  have hb : b < d.size := by omega
  have ca := (hH a ha).1
  have cb := (hH b hb).1
  have fa := (hH a ha).2
  have fb := (hH b hb).2
  generalize d[a]! = x at ca
  generalize d[b]! = y at cb
  clear hH hab
  cases hl : ltN y x
  · have C := Go.Lib.hid (fun w => hl ▸ CL.out y x w)
    clear hl
    go_enter Try.func48, Try.ntmps48
    go_wp2
    go_quiet (first | (go_at_call 37; refine Calls.quiet_of_same (C.out _)))
    go_wp2
    go_ret2
    exact ⟨a, b, s, rfl, by have := HAB.out; unfold Hid; omega, HC.out, below_drewN _ _ _⟩
  · have C := Go.Lib.hid (fun w => hl ▸ CL.out y x w)
    clear hl
    go_enter Try.func48, Try.ntmps48
    go_wp2
    go_quiet (first | (go_at_call 37; refine Calls.quiet_of_same (C.out _)))
    go_wp2
    go_ret2
    exact ⟨b, a, s + 1, rfl, by have := HAB.out; unfold Hid; omega, count_set (w := w.drewN nq) HC.out (s + 1), RowKit.Below.setCell (below_drewN sb w nq) (p := ⟨sb, 0, none⟩) (Nat.le_refl _) _⟩

set_option maxRecDepth 100000 in
set_option maxHeartbeats 1000000 in
theorem median_any (blk off cap sb lo hi a b c s : Nat) (d : Array Nat) (w : World) (hH : Holds encN w blk off d) (hab : lo ≤ a ∧ a < hi ∧ lo ≤ b ∧ b < hi ∧ lo ≤ c ∧ c < hi) (hhi : hi ≤ d.size) (hs : s ≤ 100) (hc : Count sb s w) (hblk : blk < sb) :
    Calls Try.prog 46 #[.slice (some ⟨blk, off, none⟩) d.size cap, .int .i64 a, .int .i64 b, .int .i64 c, .pointer (some ⟨sb, 0, none⟩)] w (One lo hi sb (s + 3) w) := by
  have C1 := Go.Lib.hid (order2_any blk off cap sb lo hi a b s d w hH (by omega) hhi (by omega) hc)
  have C2 := Go.Lib.hid (fun (b s2 : Nat) (w1 : World) (h : lo ≤ b ∧ b < hi) (hs2 : s2 ≤ s + 1) (hc : Count sb s2 w1) (hb : Below sb w w1) => order2_any blk off cap sb lo hi b c s2 d w1 (holds_below hH hb hblk) (by omega) hhi (by omega) hc)
  have C3 := Go.Lib.hid (fun (a b s2 : Nat) (w1 : World) (h : lo ≤ a ∧ a < hi ∧ lo ≤ b ∧ b < hi) (hs2 : s2 ≤ s + 2) (hc : Count sb s2 w1) (hb : Below sb w w1) => order2_any blk off cap sb lo hi a b s2 d w1 (holds_below hH hb hblk) (by omega) hhi (by omega) hc)
  clear hH hab
  go_enter Try.func46, Try.ntmps46
  go_wp2_with (go_at_call 48; refine (C1.out).mono ?_)
  rintro e w1 ⟨x1, y1, t1, rfl, h1, k1, b1⟩
  go_wp2_with (go_at_call 48; refine (C2.out y1 t1 w1 ⟨h1.out.2.2.1, h1.out.2.2.2.1⟩ h1.out.2.2.2.2 k1 b1).mono ?_)
  rintro e w2 ⟨x2, y2, t2, rfl, h2, k2, b2⟩
  go_wp2_with (go_at_call 48; refine (C3.out x1 x2 t2 w2 ⟨h1.out.1, h1.out.2.1, h2.out.1, h2.out.2.1⟩ (by have := h1.out; have := h2.out; omega) k2 (b1.trans b2)).mono ?_)
  rintro e w3 ⟨x3, y3, t3, rfl, h3, k3, b3⟩
  go_wp2
  go_ret
  exact ⟨y3, t3, rfl, by have := h1.out; have := h2.out; have := h3.out; unfold Hid; omega, k3, (b1.trans b2).trans b3⟩

/-- Of a place and both its neighbours. -/
theorem adjacent_any (blk off cap sb lo hi a s : Nat) (d : Array Nat) (w : World) (hH : Holds encN w blk off d) (hab : lo + 1 ≤ a ∧ a + 1 < hi) (hhi : hi ≤ d.size) (hsz : d.size < 1000000000) (hs : s ≤ 90) (hc : Count sb s w) (hblk : blk < sb) :
    Calls Try.prog 45 #[.slice (some ⟨blk, off, none⟩) d.size cap, .int .i64 a, .pointer (some ⟨sb, 0, none⟩)] w (One lo hi sb (s + 3) w) := by
  have C1 := Go.Lib.hid (median_any blk off cap sb lo hi (a - 1) a (a + 1) s d w hH (by omega) hhi (by omega) hc hblk)
  rw [show ((a - 1 : Nat) : Int) = (a : Int) - 1 by omega, show ((a + 1 : Nat) : Int) = (a : Int) + 1 by omega] at C1
  clear hH hc
  go_enter Try.func45, Try.ntmps45
  go_wp2_with (go_at_call 46; refine (C1.out).mono ?_)
  rintro e w1 ⟨x1, t1, rfl, h1, k1, b1⟩
  go_wp2
  go_ret
  exact ⟨x1, t1, rfl, h1, k1, b1⟩

/-- The pivot lies in the part. -/
def Chosen (a b : Nat) (w : World) (e : Ending) (w' : World) : Prop :=
  ∃ (p h : Nat), e = .returned (.tuple #[.int .i64 p, .int .i64 h]) ∧ Hid (a < p ∧ p < b ∧ (h = 2 → p + 1 < b)) ∧ h ≤ 2 ∧ Below w.heap.size w w'
theorem count_new (w : World) (T : TypeId) : Count w.heap.size 0 (w.alloc (Obj.cells #[.int .i64 0] T)) :=
  ⟨by rw [World.cell?_alloc_at _ _ _ _ rfl]; rfl, by rw [World.frozen?_alloc_at _ _ _ _ rfl]⟩

set_option maxRecDepth 100000 in
set_option maxHeartbeats 2000000 in
theorem choose_short (blk off cap a b : Nat) (d : Array Nat) (w : World) (hH : Holds encN w blk off d) (hab : a + 12 < b) (hb : b ≤ d.size) (hl : b < a + 50) (hsz : d.size < 1000000000) (hblk : blk < w.heap.size) :
    Calls Try.prog 34 #[.slice (some ⟨blk, off, none⟩) d.size cap, .int .i64 a, .int .i64 b] w (Chosen a b w) := by
  have hb0 : ∀ T, RowKit.Below w.heap.size w (w.alloc (Obj.cells #[.int .i64 0] T)) := fun T => (RowKit.Below.refl _ _).alloc (Nat.le_refl _) _
  have C1 := Go.Lib.hid (fun T => median_any blk off cap w.heap.size (a + 1) b (a + (b - a) / 4) (a + (b - a) / 4 * 2) (a + (b - a) / 4 * 3) 0 d _ (holds_below hH (hb0 T) hblk) (by omega) hb (by omega) (count_new w T) hblk)
  rw [show ((a + (b - a) / 4 : Nat) : Int) = (a : Int) + ((b : Int) - (a : Int)) / 4 by omega, show ((a + (b - a) / 4 * 2 : Nat) : Int) = (a : Int) + ((b : Int) - (a : Int)) / 4 * 2 by omega, show ((a + (b - a) / 4 * 3 : Nat) : Int) = (a : Int) + ((b : Int) - (a : Int)) / 4 * 3 by omega] at C1
  have HB := Go.Lib.hid hb0
  clear hH hb0
  go_enter Try.func34, Try.ntmps34
  go_wp2_with (go_at_call 46; refine (C1.out 3).mono ?_)
  rintro e w1 ⟨x1, t1, rfl, h1, k1, b1⟩
  obtain ⟨k1, k2⟩ := k1
  have ht : t1 ≤ 3 := by have := h1.out; omega
  by_cases h0 : t1 = 0
  · subst h0
    go_wp2
    go_ret2
    exact ⟨x1, 1, rfl, by have := h1.out; unfold Hid; omega, by omega, (HB.out _).trans b1⟩
  · have h12 : ¬ t1 = 12 := by omega
    go_wp2
    go_ret2
    exact ⟨x1, 0, rfl, by have := h1.out; unfold Hid; omega, by omega, (HB.out _).trans b1⟩

set_option maxRecDepth 100000 in
set_option maxHeartbeats 4000000 in
theorem choose_long (blk off cap a b : Nat) (d : Array Nat) (w : World) (hH : Holds encN w blk off d) (hb : b ≤ d.size) (hl : a + 50 ≤ b) (hsz : d.size < 1000000000) (hblk : blk < w.heap.size) :
    Calls Try.prog 34 #[.slice (some ⟨blk, off, none⟩) d.size cap, .int .i64 a, .int .i64 b] w (Chosen a b w) := by
  have hb0 : ∀ T, RowKit.Below w.heap.size w (w.alloc (Obj.cells #[.int .i64 0] T)) := fun T => (RowKit.Below.refl _ _).alloc (Nat.le_refl _) _
  have hH0 : ∀ W, RowKit.Below w.heap.size w W → Holds encN W blk off d := fun W h => holds_below hH h hblk
  have C1 := Go.Lib.hid (fun (W : World) (hB : RowKit.Below w.heap.size w W) (s : Nat) (hs : s ≤ 90) (hc : Count w.heap.size s W) => adjacent_any blk off cap w.heap.size (a + 1) (b - 1) (a + (b - a) / 4) s d W (hH0 W hB) (by omega) (by omega) hsz hs hc hblk)
  have C2 := Go.Lib.hid (fun (W : World) (hB : RowKit.Below w.heap.size w W) (s : Nat) (hs : s ≤ 90) (hc : Count w.heap.size s W) => adjacent_any blk off cap w.heap.size (a + 1) (b - 1) (a + (b - a) / 4 * 2) s d W (hH0 W hB) (by omega) (by omega) hsz hs hc hblk)
  have C3 := Go.Lib.hid (fun (W : World) (hB : RowKit.Below w.heap.size w W) (s : Nat) (hs : s ≤ 90) (hc : Count w.heap.size s W) => adjacent_any blk off cap w.heap.size (a + 1) (b - 1) (a + (b - a) / 4 * 3) s d W (hH0 W hB) (by omega) (by omega) hsz hs hc hblk)
  have C4 := Go.Lib.hid (fun (W : World) (hB : RowKit.Below w.heap.size w W) (s : Nat) (hs : s ≤ 90) (hc : Count w.heap.size s W) (x y z : Nat) (h : a + 1 ≤ x ∧ x < b - 1 ∧ a + 1 ≤ y ∧ y < b - 1 ∧ a + 1 ≤ z ∧ z < b - 1) => median_any blk off cap w.heap.size (a + 1) (b - 1) x y z s d W (hH0 W hB) h (by omega) (by omega) hc hblk)
  rw [show ((a + (b - a) / 4 : Nat) : Int) = (a : Int) + ((b : Int) - (a : Int)) / 4 by omega] at C1
  rw [show ((a + (b - a) / 4 * 2 : Nat) : Int) = (a : Int) + ((b : Int) - (a : Int)) / 4 * 2 by omega] at C2
  rw [show ((a + (b - a) / 4 * 3 : Nat) : Int) = (a : Int) + ((b : Int) - (a : Int)) / 4 * 3 by omega] at C3
  have HB := Go.Lib.hid (hb0 3)
  have HC := Go.Lib.hid (count_new w 3)
  clear hH hb0 hH0
  go_enter Try.func34, Try.ntmps34
  go_wp2_with (go_at_call 45; refine (C1.out _ HB.out 0 (by omega) HC.out).mono ?_)
  rintro e w1 ⟨x1, t1, rfl, h1, k1, b1⟩
  have B1 := Go.Lib.hid ((HB.out).trans b1)
  have K1 := Go.Lib.hid k1
  clear b1 k1
  go_wp2_with (go_at_call 45; refine (C2.out _ B1.out t1 (by have := h1.out; omega) K1.out).mono ?_)
  rintro e w2 ⟨x2, t2, rfl, h2, k2, b2⟩
  have B2 := Go.Lib.hid ((B1.out).trans b2)
  have K2 := Go.Lib.hid k2
  clear b2 k2
  go_wp2_with (go_at_call 45; refine (C3.out _ B2.out t2 (by have := h1.out; have := h2.out; omega) K2.out).mono ?_)
  rintro e w3 ⟨x3, t3, rfl, h3, k3, b3⟩
  have B3 := Go.Lib.hid ((B2.out).trans b3)
  have K3 := Go.Lib.hid k3
  clear b3 k3
  go_wp2_with (go_at_call 46; refine (C4.out _ B3.out t3 (by have := h1.out; have := h2.out; have := h3.out; omega) K3.out x1 x2 x3 (by have := h1.out; have := h2.out; have := h3.out; omega)).mono ?_)
  rintro e w4 ⟨x4, t4, rfl, h4, k4, b4⟩
  have B4 := Go.Lib.hid ((B3.out).trans b4)
  clear b4
  obtain ⟨k4, k5⟩ := k4
  by_cases h0 : t4 = 0
  · subst h0
    go_wp2
    go_ret2
    exact ⟨x4, 1, rfl, by have := h4.out; unfold Hid; omega, by omega, B4.out⟩
  · by_cases h12 : t4 = 12
    · subst h12
      go_wp2
      go_ret2
      exact ⟨x4, 2, rfl, by have := h4.out; unfold Hid; omega, by omega, B4.out⟩
    · go_wp2
      go_ret2
      exact ⟨x4, 0, rfl, by have := h4.out; unfold Hid; omega, by omega, B4.out⟩
theorem choose_any (blk off cap a b : Nat) (d : Array Nat) (w : World) (hH : Holds encN w blk off d) (hab : a + 12 < b) (hb : b ≤ d.size) (hsz : d.size < 1000000000) (hblk : blk < w.heap.size) :
    Calls Try.prog 34 #[.slice (some ⟨blk, off, none⟩) d.size cap, .int .i64 a, .int .i64 b] w (Chosen a b w) := by
  by_cases h : b < a + 50
  · exact choose_short blk off cap a b d w hH hab hb h hsz hblk
  · exact choose_long blk off cap a b d w hH hb (by omega) hsz hblk
end Go.Proofs.Ytifaclbafmpiiaa.Srt
