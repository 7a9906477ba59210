/- The sort of numbers of 32 bits: the choice of the pivot. -/
import Derived.Test.YtdgfnnjcpoklfaaDoorSortKit
namespace Go.Proofs.YtdgfnnjcpoklfaaDoor.Srt
open Go.RowKit Go.Sort

/-- A count of swaps lies in its cell. -/
def Count (sb s : Nat) (w : World) : Prop := w.cell? ⟨sb, 0, none⟩ = some (.int .i64 s) ∧ w.frozen? ⟨sb, 0, none⟩ = false
/-- Two places of the part, in one order or the other. -/
def Two (lo hi sb s : Nat) (w : World) (e : Ending) (w' : World) : Prop :=
  ∃ x y t : Nat, e = .returned (.tuple #[.int .i64 x, .int .i64 y]) ∧ Hid (lo ≤ x ∧ x < hi ∧ lo ≤ y ∧ y < hi ∧ t ≤ s + 1) ∧ Count sb t w' ∧ Below sb w w'
def One (lo hi sb s : Nat) (w : World) (e : Ending) (w' : World) : Prop :=
  ∃ x t : Nat, e = .returned (.int .i64 x) ∧ Hid (lo ≤ x ∧ x < hi ∧ t ≤ s) ∧ Count sb t w' ∧ Below sb w w'
theorem holds_below {B blk off : Nat} {d : Array Nat} {w w' : World} (h : Holds encN w blk off d) (hb : Below B w w') (hB : blk < B) : Holds encN w' blk off d := fun j hj =>
  ⟨by rw [hb.cell hB]; exact (h j hj).1, by rw [hb.frozen hB]; exact (h j hj).2⟩
theorem below_drewN (B : Nat) (w : World) (n : Nat) : Below B w (w.drewN n) := ⟨rfl, rfl, rfl, by simp, fun k _ => by simp⟩
theorem count_set {w : World} {sb s : Nat} (h : Count sb s w) (t : Nat) : Count sb t (w.setCell ⟨sb, 0, none⟩ (.int .i64 t)) := by
  obtain ⟨c, e, f, h1, h2⟩ := cells_of_cell? h.1
  refine ⟨?_, ?_⟩
  · rw [setCell_eq, cell?_mapBlock _ _ _ _ h1]
    have : 0 < c.size := by
      rcases Nat.eq_zero_or_pos c.size with h | h
      · rw [Array.getElem?_eq_none (by omega)] at h2; cases h2
      · exact h
    rw [Array.getElem?_setIfInBounds_self_of_lt this]
  · rw [setCell_eq, frozen?_mapBlock]; exact h.2

set_option maxHeartbeats 1000000 in
theorem order2_any (blk off cap sb lo hi a b s : Nat) (d : Array Nat) (w : World) (hH : Holds encN w blk off d) (hab : lo ≤ a ∧ a < hi ∧ lo ≤ b ∧ b < hi) (hhi : hi ≤ d.size) (hs : s ≤ 1000) (hc : Count sb s w) :
    Calls Tryd.prog 92 #[.slice (some ⟨blk, off, none⟩) d.size cap, .int .i64 a, .int .i64 b, .pointer (some ⟨sb, 0, none⟩)] w (Two lo hi sb s w) := by
  have CL := Go.Lib.hid less_q
  have HC := Go.Lib.hid hc
  have HAB := Go.Lib.hid hab
  obtain ⟨cs, fs⟩ := hc
  have ha : a < d.size := by omega
  have hb : b < d.size := by omega
  have ca := (hH a ha).1
  have cb := (hH b hb).1
  have fa := (hH a ha).2
  have fb := (hH b hb).2
  generalize d[a]! = x at ca
  generalize d[b]! = y at cb
  clear hH hab
  cases hl : ltN y x
  · have C := Go.Lib.hid (fun w => hl ▸ CL.out y x w)
    clear hl
    go_enter Tryd.func92, Tryd.ntmps92
    go_wp2
    go_quiet (first | (go_at_call 47; refine Calls.quiet_of_same (C.out _)))
    go_wp2
    go_ret2
    exact ⟨a, b, s, rfl, by have := HAB.out; unfold Hid; omega, HC.out, below_drewN _ _ _⟩
  · have C := Go.Lib.hid (fun w => hl ▸ CL.out y x w)
    clear hl
    go_enter Tryd.func92, Tryd.ntmps92
    go_wp2
    go_quiet (first | (go_at_call 47; refine Calls.quiet_of_same (C.out _)))
    go_wp2
    go_ret2
    exact ⟨b, a, s + 1, rfl, by have := HAB.out; unfold Hid; omega, count_set (w := w.drewN nq) HC.out (s + 1), RowKit.Below.setCell (below_drewN sb w nq) (p := ⟨sb, 0, none⟩) (Nat.le_refl _) _⟩

set_option maxRecDepth 100000 in
set_option maxHeartbeats 1000000 in
theorem median_any (blk off cap sb lo hi a b c s : Nat) (d : Array Nat) (w : World) (hH : Holds encN w blk off d) (hab : lo ≤ a ∧ a < hi ∧ lo ≤ b ∧ b < hi ∧ lo ≤ c ∧ c < hi) (hhi : hi ≤ d.size) (hs : s ≤ 100) (hc : Count sb s w) (hblk : blk < sb) :
    Calls Tryd.prog 80 #[.slice (some ⟨blk, off, none⟩) d.size cap, .int .i64 a, .int .i64 b, .int .i64 c, .pointer (some ⟨sb, 0, none⟩)] w (One lo hi sb (s + 3) w) := by
  have C1 := Go.Lib.hid (order2_any blk off cap sb lo hi a b s d w hH (by omega) hhi (by omega) hc)
  have C2 := Go.Lib.hid (fun (b s2 : Nat) (w1 : World) (h : lo ≤ b ∧ b < hi) (hs2 : s2 ≤ s + 1) (hc : Count sb s2 w1) (hb : Below sb w w1) => order2_any blk off cap sb lo hi b c s2 d w1 (holds_below hH hb hblk) (by omega) hhi (by omega) hc)
  have C3 := Go.Lib.hid (fun (a b s2 : Nat) (w1 : World) (h : lo ≤ a ∧ a < hi ∧ lo ≤ b ∧ b < hi) (hs2 : s2 ≤ s + 2) (hc : Count sb s2 w1) (hb : Below sb w w1) => order2_any blk off cap sb lo hi a b s2 d w1 (holds_below hH hb hblk) (by omega) hhi (by omega) hc)
  clear hH hab
  go_enter Tryd.func80, Tryd.ntmps80
  go_wp2_with (go_at_call 92; refine (C1.out).mono ?_)
  rintro e w1 ⟨x1, y1, t1, rfl, h1, k1, b1⟩
  go_wp2_with (go_at_call 92; refine (C2.out y1 t1 w1 ⟨h1.out.2.2.1, h1.out.2.2.2.1⟩ h1.out.2.2.2.2 k1 b1).mono ?_)
  rintro e w2 ⟨x2, y2, t2, rfl, h2, k2, b2⟩
  go_wp2_with (go_at_call 92; refine (C3.out x1 x2 t2 w2 ⟨h1.out.1, h1.out.2.1, h2.out.1, h2.out.2.1⟩ (by have := h1.out; have := h2.out; omega) k2 (b1.trans b2)).mono ?_)
  rintro e w3 ⟨x3, y3, t3, rfl, h3, k3, b3⟩
  go_wp2
  go_ret
  exact ⟨y3, t3, rfl, by have := h1.out; have := h2.out; have := h3.out; unfold Hid; omega, k3, (b1.trans b2).trans b3⟩

/-- The pivot lies in the part; to 49 numbers the hint never says that they fall. -/
def Chosen (a b : Nat) (w : World) (e : Ending) (w' : World) : Prop :=
  ∃ (p h : Nat), e = .returned (.tuple #[.int .i64 p, .int .i64 h]) ∧ Hid (a < p ∧ p < b) ∧ h ≤ 1 ∧ Below w.heap.size w w'
theorem count_new (w : World) (T : TypeId) : Count w.heap.size 0 (w.alloc (Obj.cells #[.int .i64 0] T)) :=
  ⟨by rw [World.cell?_alloc_at _ _ _ _ rfl]; rfl, by rw [World.frozen?_alloc_at _ _ _ _ rfl]⟩

set_option maxRecDepth 100000 in
set_option maxHeartbeats 2000000 in
theorem choose_any (blk off cap a b : Nat) (d : Array Nat) (w : World) (hH : Holds encN w blk off d) (hab : a + 12 < b) (hb : b ≤ d.size) (hl : b < a + 50) (hsz : d.size < 1000000000) (hblk : blk < w.heap.size) :
    Calls Tryd.prog 61 #[.slice (some ⟨blk, off, none⟩) d.size cap, .int .i64 a, .int .i64 b] w (Chosen a b w) := by
  have hb0 : ∀ T, RowKit.Below w.heap.size w (w.alloc (Obj.cells #[.int .i64 0] T)) := fun T => (RowKit.Below.refl _ _).alloc (Nat.le_refl _) _
  have C1 := Go.Lib.hid (fun T => median_any blk off cap w.heap.size (a + 1) b (a + (b - a) / 4) (a + (b - a) / 4 * 2) (a + (b - a) / 4 * 3) 0 d _ (holds_below hH (hb0 T) hblk) (by omega) hb (by omega) (count_new w T) hblk)
  rw [show ((a + (b - a) / 4 : Nat) : Int) = (a : Int) + ((b : Int) - (a : Int)) / 4 by omega, show ((a + (b - a) / 4 * 2 : Nat) : Int) = (a : Int) + ((b : Int) - (a : Int)) / 4 * 2 by omega, show ((a + (b - a) / 4 * 3 : Nat) : Int) = (a : Int) + ((b : Int) - (a : Int)) / 4 * 3 by omega] at C1
  have HB := Go.Lib.hid hb0
  clear hH hb0
  go_enter Tryd.func61, Tryd.ntmps61
  go_wp2_with (go_at_call 80; refine (C1.out 3).mono ?_)
  rintro e w1 ⟨x1, t1, rfl, h1, k1, b1⟩
  obtain ⟨k1, k2⟩ := k1
  have ht : t1 ≤ 3 := by have := h1.out; omega
  by_cases h0 : t1 = 0
  · subst h0
    go_wp2
    go_ret2
    exact ⟨x1, 1, rfl, by have := h1.out; unfold Hid; omega, by omega, (HB.out _).trans b1⟩
  · have h12 : ¬ t1 = 12 := by omega
    go_wp2
    go_ret2
    exact ⟨x1, 0, rfl, by have := h1.out; unfold Hid; omega, by omega, (HB.out _).trans b1⟩
end Go.Proofs.YtdgfnnjcpoklfaaDoor.Srt
