/- The sort of numbers of 32 bits: the row's words, and the insertion sort's walk. The sort of numbers of 32 bits: the choice of the pivot. The sort of numbers of 32 bits: the try whether the part is sorted already. The sort of numbers of 32 bits: the try whether the part is nearly sorted, and five shifts. -/
import Derived.Test.YtlhdjdnflpilbaaGreatDoorH28
import Derived.Sort.WalkA
import Derived.BigGuard
import Derived.BigCall
import Derived.CellFam
import Derived.Deep.Draws
import Derived.Deep.QuietTactic
import Derived.BigQuiet
import Derived.BigRegion
namespace Go.Proofs.YtlhdjdnflpilbaaGreatDoor.Srt
open Go.RowKit Go.Sort
abbrev encN (n : Nat) : Value := .int .u32 n
def ltN (x y : Nat) : Bool := decide (x < y)
theorem swoN : SWO ltN := ⟨fun x => by simp [ltN], fun x y z => by simp only [ltN, decide_eq_true_eq]; omega, fun x y z => by simp only [ltN, decide_eq_false_iff_not]; omega⟩
def Puts (blk off : Nat) (d' : Array Nat) (w : World) (e : Ending) (w' : World) : Prop := e = .returned (.tuple #[]) ∧ ∃ n, w' = putRow encN (Sort.ahead w n) blk off d'
def PutsG (blk off : Nat) (d' : Array Nat) (w : World) (e : Ending) (w' : World) : Prop := e = .returned (.tuple #[]) ∧ ∃ n os, w' = grow (putRow encN (Sort.ahead w n) blk off d') os
theorem Puts.grown {blk off : Nat} {d' : Array Nat} {w w' : World} {e : Ending} (h : Puts blk off d' w e w') : PutsG blk off d' w e w' := by
 obtain ⟨he, n, hw⟩ := h
 exact ⟨he, n, #[], by rw [hw, grow_empty]⟩
theorem row_facts {w wr : World} {blk off m : Nat} {d dk : Array Nat} (hH : Holds encN w blk off d) (hs : dk.size = d.size) (hw : wr = putRow encN (Sort.ahead w m) blk off dk) :
  ∃ G : Nat → Nat, (∀ t, G t = dk[t]!) ∧ (∀ t, t < d.size → wr.cell? ⟨blk, off + t, none⟩ = some (.int .u32 (G t))) ∧ (∀ t, t < d.size → wr.frozen? ⟨blk, off + t, none⟩ = false) :=
 ⟨fun t => dk[t]!, fun _ => rfl, fun t ht => by rw [hw]; exact cell?_putRow _ _ _ _ d dk (holds_ahead _ _ _ _ _ _ hH) hs t (by omega), fun t ht => by rw [hw, frozen?_putRow]; exact ((holds_ahead _ _ m _ _ _ hH) t ht).2⟩
theorem less_q (x y : Nat) (w : World) : Calls Tryz.prog 134 #[.int .u32 x, .int .u32 y] w fun e w' => e = .returned (.bool (ltN x y)) ∧ w' = w :=
 (Nums.less_any x y w).mono fun _ _ ⟨he, hw⟩ => ⟨by rw [he]; unfold ltN; simp, hw.symm⟩
set_option maxHeartbeats 4000000 in
theorem insertion_any (blk off cap a b : Nat) (d : Array Nat) (w : World) (hH : Holds encN w blk off d) (hab : a ≤ b) (hb : b ≤ d.size) (hsz : d.size < 4611686018427387904) :
  Calls Tryz.prog 128 #[.slice (some ⟨blk, off, none⟩) d.size cap, .int .i64 a, .int .i64 b] w (Puts blk off (Sort.insertionSort ltN d a b) w) := by
 have HH := Go.Lib.hid hH
 have CL := Go.Lib.hid less_q
 clear hH
 go_enter Tryz.func128, Tryz.ntmps128
 go_wp2
 go_loopw [6] (fun vi wr => ∃ (i n : Nat) (dk : Array Nat), vi = .int .i64 i ∧ a < i ∧ i ≤ b + 1 ∧ dk.size = d.size ∧ Hid (wr = putRow encN (Sort.ahead w n) blk off dk) ∧
   Hid (insOuter ltN a b i dk = insOuter ltN a b (a + 1) d)) (fun vi _ => b + 1 - (intOf vi).toNat)
 case atStart => exact ⟨a + 1, 0, d, by go_num, by omega, by omega, rfl, (putRow_self _ _ _ _ _ HH.out).symm, rfl⟩
 case round =>
  obtain ⟨i, n, dk, rfl, hai, hib, hsk, hwr, hO⟩ := hrel
  by_cases hlt : i < b
  ·go_wp2
   go_loopw [7] (fun vj wr2 => ∃ (j m : Nat) (dj : Array Nat), vj = .int .i64 j ∧ a ≤ j ∧ j ≤ i ∧ dj.size = d.size ∧ Hid (wr2 = putRow encN (Sort.ahead w m) blk off dj) ∧
     Hid (insInner ltN a j dj = insInner ltN a i dk)) (fun vj _ => (intOf vj).toNat)
   case atStart => exact ⟨i, n, dk, rfl, by omega, Nat.le_refl _, hsk, hwr, rfl⟩
   case round =>
    obtain ⟨j, m, dj, rfl, haj, hji, hsj, hw2, hI⟩ := hrel
    obtain ⟨G, hG, hcw, hfw⟩ := row_facts HH.out hsj hw2.out
    have HG := Go.Lib.hid hG
    clear hG
    have OUT := Go.Lib.hid (fun (hs : j ≤ a ∨ ltN (G j) (G (j - 1)) = false) (q : Nat) => show insOuter ltN a b (i + 1) dj = insOuter ltN a b (a + 1) d ∧ wr.drewN q = putRow encN (Sort.ahead w (m + q)) blk off dj from
     ⟨by rw [← hO.out, insOuter_go _ _ _ _ _ hlt, ← hI.out, insInner_stop _ _ _ _ (by rw [HG.out, HG.out] at hs; exact hs)], by rw [hw2.out]; exact putRow_drewN _ _ _ _ _ _ _⟩)
    by_cases hja : a < j
    ·have hj1 : j - 1 < d.size := by omega
     have hj2 : j < d.size := by omega
     cases hl : ltN (G j) (G (j - 1))
     ·have OUT2 := Go.Lib.hid (OUT.out (.inr hl))
      have C := Go.Lib.hid (fun w => hl ▸ CL.out (G j) (G (j - 1)) w)
      clear hl
      go_wp2
      go_quiet (first | (go_at_call 134; refine Calls.quiet_of_same (C.out _)))
      go_wp2
      go_roundw
      case rel => exact ⟨i + 1, _, dj, by go_num, by omega, by omega, hsj, (OUT2.out nq).2, (OUT2.out nq).1⟩
      case measure => simp [intOf]; omega
     ·have C := Go.Lib.hid (fun w => hl ▸ CL.out (G j) (G (j - 1)) w)
      have GO := Go.Lib.hid (show insInner ltN a (j - 1) (swp dj j (j - 1)) = insInner ltN a i dk by rw [← hI.out, insInner_go ltN a j dj hja (by rw [← HG.out, ← HG.out]; exact hl)])
      clear hl
      go_wp2
      go_quiet (first | (go_at_call 134; refine Calls.quiet_of_same (C.out _)))
      go_wp2
      go_region
      all_goals go_wp2
      go_roundw
      case rel => exact ⟨j - 1, m + (nq + 1), swp dj j (j - 1), by congr 1; omega, by omega, by omega, by rw [size_swp]; exact hsj, by
       unfold Hid
       rw [hw2.out, HG.out, HG.out]
       exact swap_worldA _ w m (nq + 1) blk off dj j (j - 1) (by omega) (by omega), GO.out⟩
      case measure => simp [intOf]; omega
    ·have OUT2 := Go.Lib.hid (OUT.out (.inl (by omega)))
     have hd : decide (a < j) = false := by simp; omega
     go_wp2
     go_quiet (first | (go_at_call 134; refine Calls.quiet_of_same (CL.out _ _ _)))
     go_wp2
     go_roundw
     case rel => exact ⟨i + 1, _, dj, by go_num, by omega, by omega, hsj, (OUT2.out nq).2, (OUT2.out nq).1⟩
     case measure => simp [intOf]; omega
  ·go_wp2
   go_end0
   exact ⟨rfl, n, by unfold Sort.insertionSort; rw [← hO.out, insOuter_stop _ _ _ _ _ hlt]; exact hwr.out⟩
end Go.Proofs.YtlhdjdnflpilbaaGreatDoor.Srt
namespace Go.Proofs.YtlhdjdnflpilbaaGreatDoor.Srt
open Go.RowKit Go.Sort
def Count (sb s : Nat) (w : World) : Prop := w.cell? ⟨sb, 0, none⟩ = some (.int .i64 s) ∧ w.frozen? ⟨sb, 0, none⟩ = false
def Two (lo hi sb s : Nat) (w : World) (e : Ending) (w' : World) : Prop :=
 ∃ x y t : Nat, e = .returned (.tuple #[.int .i64 x, .int .i64 y]) ∧ Hid (lo ≤ x ∧ x < hi ∧ lo ≤ y ∧ y < hi ∧ t ≤ s + 1) ∧ Count sb t w' ∧ Below sb w w'
def One (lo hi sb s : Nat) (w : World) (e : Ending) (w' : World) : Prop :=
 ∃ x t : Nat, e = .returned (.int .i64 x) ∧ Hid (lo ≤ x ∧ x < hi ∧ t ≤ s) ∧ Count sb t w' ∧ Below sb w w'
theorem holds_below {B blk off : Nat} {d : Array Nat} {w w' : World} (h : Holds encN w blk off d) (hb : Below B w w') (hB : blk < B) : Holds encN w' blk off d := fun j hj =>
 ⟨by rw [hb.cell hB]; exact (h j hj).1, by rw [hb.frozen hB]; exact (h j hj).2⟩
theorem below_drewN (B : Nat) (w : World) (n : Nat) : Below B w (w.drewN n) := ⟨rfl, rfl, rfl, by simp, fun k _ => by simp⟩
theorem count_set {w : World} {sb s : Nat} (h : Count sb s w) (t : Nat) : Count sb t (w.setCell ⟨sb, 0, none⟩ (.int .i64 t)) := by
 obtain ⟨c, e, f, h1, h2⟩ := cells_of_cell? h.1
 refine ⟨?_, ?_⟩
 ·rw [setCell_eq, cell?_mapBlock _ _ _ _ h1]
  have : 0 < c.size := by
   rcases Nat.eq_zero_or_pos c.size with h | h
   ·rw [Array.getElem?_eq_none (by omega)] at h2; cases h2
   ·exact h
  rw [Array.getElem?_setIfInBounds_self_of_lt this]
 ·rw [setCell_eq, frozen?_mapBlock]; exact h.2
set_option maxHeartbeats 1000000 in
theorem order2_any (blk off cap sb lo hi a b s : Nat) (d : Array Nat) (w : World) (hH : Holds encN w blk off d) (hab : lo ≤ a ∧ a < hi ∧ lo ≤ b ∧ b < hi) (hhi : hi ≤ d.size) (hs : s ≤ 1000) (hc : Count sb s w) :
  Calls Tryz.prog 145 #[.slice (some ⟨blk, off, none⟩) d.size cap, .int .i64 a, .int .i64 b, .pointer (some ⟨sb, 0, none⟩)] w (Two lo hi sb s w) := by
 have CL := Go.Lib.hid less_q
 have HC := Go.Lib.hid hc
 have HAB := Go.Lib.hid hab
 obtain ⟨cs, fs⟩ := hc
 have ha : a < d.size := by omega
 have hb : b < d.size := by omega
 have ca := (hH a ha).1
 have cb := (hH b hb).1
 have fa := (hH a ha).2
 have fb := (hH b hb).2
 generalize d[a]! = x at ca
 generalize d[b]! = y at cb
 clear hH hab
 cases hl : ltN y x
 ·have C := Go.Lib.hid (fun w => hl ▸ CL.out y x w)
  clear hl
  go_enter Tryz.func145, Tryz.ntmps145
  go_wp2
  go_quiet (first | (go_at_call 134; refine Calls.quiet_of_same (C.out _)))
  go_wp2
  go_ret2
  exact ⟨a, b, s, rfl, by have := HAB.out; unfold Hid; omega, HC.out, below_drewN _ _ _⟩
 ·have C := Go.Lib.hid (fun w => hl ▸ CL.out y x w)
  clear hl
  go_enter Tryz.func145, Tryz.ntmps145
  go_wp2
  go_quiet (first | (go_at_call 134; refine Calls.quiet_of_same (C.out _)))
  go_wp2
  go_ret2
  exact ⟨b, a, s + 1, rfl, by have := HAB.out; unfold Hid; omega, count_set (w := w.drewN nq) HC.out (s + 1), RowKit.Below.setCell (below_drewN sb w nq) (p := ⟨sb, 0, none⟩) (Nat.le_refl _) _⟩
set_option maxRecDepth 100000 in
set_option maxHeartbeats 1000000 in
theorem median_any (blk off cap sb lo hi a b c s : Nat) (d : Array Nat) (w : World) (hH : Holds encN w blk off d) (hab : lo ≤ a ∧ a < hi ∧ lo ≤ b ∧ b < hi ∧ lo ≤ c ∧ c < hi) (hhi : hi ≤ d.size) (hs : s ≤ 100) (hc : Count sb s w) (hblk : blk < sb) :
  Calls Tryz.prog 143 #[.slice (some ⟨blk, off, none⟩) d.size cap, .int .i64 a, .int .i64 b, .int .i64 c, .pointer (some ⟨sb, 0, none⟩)] w (One lo hi sb (s + 3) w) := by
 have C1 := Go.Lib.hid (order2_any blk off cap sb lo hi a b s d w hH (by omega) hhi (by omega) hc)
 have C2 := Go.Lib.hid (fun (b s2 : Nat) (w1 : World) (h : lo ≤ b ∧ b < hi) (hs2 : s2 ≤ s + 1) (hc : Count sb s2 w1) (hb : Below sb w w1) => order2_any blk off cap sb lo hi b c s2 d w1 (holds_below hH hb hblk) (by omega) hhi (by omega) hc)
 have C3 := Go.Lib.hid (fun (a b s2 : Nat) (w1 : World) (h : lo ≤ a ∧ a < hi ∧ lo ≤ b ∧ b < hi) (hs2 : s2 ≤ s + 2) (hc : Count sb s2 w1) (hb : Below sb w w1) => order2_any blk off cap sb lo hi a b s2 d w1 (holds_below hH hb hblk) (by omega) hhi (by omega) hc)
 clear hH hab
 go_enter Tryz.func143, Tryz.ntmps143
 go_wp2_with (go_at_call 145; refine (C1.out).mono ?_)
 rintro e w1 ⟨x1, y1, t1, rfl, h1, k1, b1⟩
 go_wp2_with (go_at_call 145; refine (C2.out y1 t1 w1 ⟨h1.out.2.2.1, h1.out.2.2.2.1⟩ h1.out.2.2.2.2 k1 b1).mono ?_)
 rintro e w2 ⟨x2, y2, t2, rfl, h2, k2, b2⟩
 go_wp2_with (go_at_call 145; refine (C3.out x1 x2 t2 w2 ⟨h1.out.1, h1.out.2.1, h2.out.1, h2.out.2.1⟩ (by have := h1.out; have := h2.out; omega) k2 (b1.trans b2)).mono ?_)
 rintro e w3 ⟨x3, y3, t3, rfl, h3, k3, b3⟩
 go_wp2
 go_ret
 exact ⟨y3, t3, rfl, by have := h1.out; have := h2.out; have := h3.out; unfold Hid; omega, k3, (b1.trans b2).trans b3⟩
theorem adjacent_any (blk off cap sb lo hi a s : Nat) (d : Array Nat) (w : World) (hH : Holds encN w blk off d) (hab : lo + 1 ≤ a ∧ a + 1 < hi) (hhi : hi ≤ d.size) (hsz : d.size < 1000000000) (hs : s ≤ 90) (hc : Count sb s w) (hblk : blk < sb) :
  Calls Tryz.prog 142 #[.slice (some ⟨blk, off, none⟩) d.size cap, .int .i64 a, .pointer (some ⟨sb, 0, none⟩)] w (One lo hi sb (s + 3) w) := by
 have C1 := Go.Lib.hid (median_any blk off cap sb lo hi (a - 1) a (a + 1) s d w hH (by omega) hhi (by omega) hc hblk)
 rw [show ((a - 1 : Nat) : Int) = (a : Int) - 1 by omega, show ((a + 1 : Nat) : Int) = (a : Int) + 1 by omega] at C1
 clear hH hc
 go_enter Tryz.func142, Tryz.ntmps142
 go_wp2_with (go_at_call 143; refine (C1.out).mono ?_)
 rintro e w1 ⟨x1, t1, rfl, h1, k1, b1⟩
 go_wp2
 go_ret
 exact ⟨x1, t1, rfl, h1, k1, b1⟩
def Chosen (a b : Nat) (w : World) (e : Ending) (w' : World) : Prop :=
 ∃ (p h : Nat), e = .returned (.tuple #[.int .i64 p, .int .i64 h]) ∧ Hid (a < p ∧ p < b ∧ (h = 2 → p + 1 < b)) ∧ h ≤ 2 ∧ Below w.heap.size w w'
theorem count_new (w : World) (T : TypeId) : Count w.heap.size 0 (w.alloc (Obj.cells #[.int .i64 0] T)) :=
 ⟨by rw [World.cell?_alloc_at _ _ _ _ rfl]; rfl, by rw [World.frozen?_alloc_at _ _ _ _ rfl]⟩
set_option maxRecDepth 100000 in
set_option maxHeartbeats 2000000 in
theorem choose_short (blk off cap a b : Nat) (d : Array Nat) (w : World) (hH : Holds encN w blk off d) (hab : a + 12 < b) (hb : b ≤ d.size) (hl : b < a + 50) (hsz : d.size < 1000000000) (hblk : blk < w.heap.size) :
  Calls Tryz.prog 131 #[.slice (some ⟨blk, off, none⟩) d.size cap, .int .i64 a, .int .i64 b] w (Chosen a b w) := by
 have hb0 : ∀ T, RowKit.Below w.heap.size w (w.alloc (Obj.cells #[.int .i64 0] T)) := fun T => (RowKit.Below.refl _ _).alloc (Nat.le_refl _) _
 have C1 := Go.Lib.hid (fun T => median_any blk off cap w.heap.size (a + 1) b (a + (b - a) / 4) (a + (b - a) / 4 * 2) (a + (b - a) / 4 * 3) 0 d _ (holds_below hH (hb0 T) hblk) (by omega) hb (by omega) (count_new w T) hblk)
 rw [show ((a + (b - a) / 4 : Nat) : Int) = (a : Int) + ((b : Int) - (a : Int)) / 4 by omega, show ((a + (b - a) / 4 * 2 : Nat) : Int) = (a : Int) + ((b : Int) - (a : Int)) / 4 * 2 by omega, show ((a + (b - a) / 4 * 3 : Nat) : Int) = (a : Int) + ((b : Int) - (a : Int)) / 4 * 3 by omega] at C1
 have HB := Go.Lib.hid hb0
 clear hH hb0
 go_enter Tryz.func131, Tryz.ntmps131
 go_wp2_with (go_at_call 143; refine (C1.out 3).mono ?_)
 rintro e w1 ⟨x1, t1, rfl, h1, k1, b1⟩
 obtain ⟨k1, k2⟩ := k1
 have ht : t1 ≤ 3 := by have := h1.out; omega
 by_cases h0 : t1 = 0
 ·subst h0
  go_wp2
  go_ret2
  exact ⟨x1, 1, rfl, by have := h1.out; unfold Hid; omega, by omega, (HB.out _).trans b1⟩
 ·have h12 : ¬ t1 = 12 := by omega
  go_wp2
  go_ret2
  exact ⟨x1, 0, rfl, by have := h1.out; unfold Hid; omega, by omega, (HB.out _).trans b1⟩
set_option maxRecDepth 100000 in
set_option maxHeartbeats 4000000 in
theorem choose_long (blk off cap a b : Nat) (d : Array Nat) (w : World) (hH : Holds encN w blk off d) (hb : b ≤ d.size) (hl : a + 50 ≤ b) (hsz : d.size < 1000000000) (hblk : blk < w.heap.size) :
  Calls Tryz.prog 131 #[.slice (some ⟨blk, off, none⟩) d.size cap, .int .i64 a, .int .i64 b] w (Chosen a b w) := by
 have hb0 : ∀ T, RowKit.Below w.heap.size w (w.alloc (Obj.cells #[.int .i64 0] T)) := fun T => (RowKit.Below.refl _ _).alloc (Nat.le_refl _) _
 have hH0 : ∀ W, RowKit.Below w.heap.size w W → Holds encN W blk off d := fun W h => holds_below hH h hblk
 have C1 := Go.Lib.hid (fun (W : World) (hB : RowKit.Below w.heap.size w W) (s : Nat) (hs : s ≤ 90) (hc : Count w.heap.size s W) => adjacent_any blk off cap w.heap.size (a + 1) (b - 1) (a + (b - a) / 4) s d W (hH0 W hB) (by omega) (by omega) hsz hs hc hblk)
 have C2 := Go.Lib.hid (fun (W : World) (hB : RowKit.Below w.heap.size w W) (s : Nat) (hs : s ≤ 90) (hc : Count w.heap.size s W) => adjacent_any blk off cap w.heap.size (a + 1) (b - 1) (a + (b - a) / 4 * 2) s d W (hH0 W hB) (by omega) (by omega) hsz hs hc hblk)
 have C3 := Go.Lib.hid (fun (W : World) (hB : RowKit.Below w.heap.size w W) (s : Nat) (hs : s ≤ 90) (hc : Count w.heap.size s W) => adjacent_any blk off cap w.heap.size (a + 1) (b - 1) (a + (b - a) / 4 * 3) s d W (hH0 W hB) (by omega) (by omega) hsz hs hc hblk)
 have C4 := Go.Lib.hid (fun (W : World) (hB : RowKit.Below w.heap.size w W) (s : Nat) (hs : s ≤ 90) (hc : Count w.heap.size s W) (x y z : Nat) (h : a + 1 ≤ x ∧ x < b - 1 ∧ a + 1 ≤ y ∧ y < b - 1 ∧ a + 1 ≤ z ∧ z < b - 1) => median_any blk off cap w.heap.size (a + 1) (b - 1) x y z s d W (hH0 W hB) h (by omega) (by omega) hc hblk)
 rw [show ((a + (b - a) / 4 : Nat) : Int) = (a : Int) + ((b : Int) - (a : Int)) / 4 by omega] at C1
 rw [show ((a + (b - a) / 4 * 2 : Nat) : Int) = (a : Int) + ((b : Int) - (a : Int)) / 4 * 2 by omega] at C2
 rw [show ((a + (b - a) / 4 * 3 : Nat) : Int) = (a : Int) + ((b : Int) - (a : Int)) / 4 * 3 by omega] at C3
 have HB := Go.Lib.hid (hb0 3)
 have HC := Go.Lib.hid (count_new w 3)
 clear hH hb0 hH0
 go_enter Tryz.func131, Tryz.ntmps131
 go_wp2_with (go_at_call 142; refine (C1.out _ HB.out 0 (by omega) HC.out).mono ?_)
 rintro e w1 ⟨x1, t1, rfl, h1, k1, b1⟩
 have B1 := Go.Lib.hid ((HB.out).trans b1)
 have K1 := Go.Lib.hid k1
 clear b1 k1
 go_wp2_with (go_at_call 142; refine (C2.out _ B1.out t1 (by have := h1.out; omega) K1.out).mono ?_)
 rintro e w2 ⟨x2, t2, rfl, h2, k2, b2⟩
 have B2 := Go.Lib.hid ((B1.out).trans b2)
 have K2 := Go.Lib.hid k2
 clear b2 k2
 go_wp2_with (go_at_call 142; refine (C3.out _ B2.out t2 (by have := h1.out; have := h2.out; omega) K2.out).mono ?_)
 rintro e w3 ⟨x3, t3, rfl, h3, k3, b3⟩
 have B3 := Go.Lib.hid ((B2.out).trans b3)
 have K3 := Go.Lib.hid k3
 clear b3 k3
 go_wp2_with (go_at_call 143; refine (C4.out _ B3.out t3 (by have := h1.out; have := h2.out; have := h3.out; omega) K3.out x1 x2 x3 (by have := h1.out; have := h2.out; have := h3.out; omega)).mono ?_)
 rintro e w4 ⟨x4, t4, rfl, h4, k4, b4⟩
 have B4 := Go.Lib.hid ((B3.out).trans b4)
 clear b4
 obtain ⟨k4, k5⟩ := k4
 by_cases h0 : t4 = 0
 ·subst h0
  go_wp2
  go_ret2
  exact ⟨x4, 1, rfl, by have := h4.out; unfold Hid; omega, by omega, B4.out⟩
 ·by_cases h12 : t4 = 12
  ·subst h12
   go_wp2
   go_ret2
   exact ⟨x4, 2, rfl, by have := h4.out; unfold Hid; omega, by omega, B4.out⟩
  ·go_wp2
   go_ret2
   exact ⟨x4, 0, rfl, by have := h4.out; unfold Hid; omega, by omega, B4.out⟩
theorem choose_any (blk off cap a b : Nat) (d : Array Nat) (w : World) (hH : Holds encN w blk off d) (hab : a + 12 < b) (hb : b ≤ d.size) (hsz : d.size < 1000000000) (hblk : blk < w.heap.size) :
  Calls Tryz.prog 131 #[.slice (some ⟨blk, off, none⟩) d.size cap, .int .i64 a, .int .i64 b] w (Chosen a b w) := by
 by_cases h : b < a + 50
 ·exact choose_short blk off cap a b d w hH hab hb h hsz hblk
 ·exact choose_long blk off cap a b d w hH hb (by omega) hsz hblk
end Go.Proofs.YtlhdjdnflpilbaaGreatDoor.Srt
namespace Go.Proofs.YtlhdjdnflpilbaaGreatDoor.Srt
open Go.RowKit Go.Sort
def Tried (blk off a b : Nat) (d : Array Nat) (w : World) (e : Ending) (w' : World) : Prop :=
 ∃ r : Bool, e = .returned (.bool r) ∧ Hid (r = true → SortedIn ltN a b d) ∧ ∃ n, w' = putRow encN (Sort.ahead w n) blk off d
theorem sorted_of_steps {d : Array Nat} {a b : Nat} (h : ∀ k, a < k → k < b → ltN d[k]! d[k - 1]! = false) : SortedIn ltN a b d := by
 intro i j hi hij hj
 have hn : ∀ n, i + n < b → d[i]! ≤ d[i + n]! := by
  intro n
  induction n with
  | zero => intro _; exact Nat.le_refl _
  | succ n ih =>
   intro hb
   have h1 := ih (by omega)
   have h2 := h (i + (n + 1)) (by omega) hb
   rw [show i + (n + 1) - 1 = i + n by omega] at h2
   unfold ltN at h2
   have h3 : ¬ d[i + (n + 1)]! < d[i + n]! := by simpa using h2
   omega
 have := hn (j - i) (by omega)
 rw [show i + (j - i) = j by omega] at this
 unfold ltN
 simpa using this
set_option maxRecDepth 100000 in
set_option maxHeartbeats 4000000 in
theorem partial_any (blk off cap a b : Nat) (d : Array Nat) (w : World) (hH : Holds encN w blk off d) (hab : a < b) (hb : b ≤ d.size) (hl : b < a + 50) (hsz : d.size < 1000000000) :
  Calls Tryz.prog 133 #[.slice (some ⟨blk, off, none⟩) d.size cap, .int .i64 a, .int .i64 b] w (Tried blk off a b d w) := by
 have HH := Go.Lib.hid hH
 have CL := Go.Lib.hid less_q
 clear hH
 go_enter Tryz.func133, Tryz.ntmps133
 go_wp2
 refine wp_loop_rounds 1 ?_
 rw [rounds_succ]
 go_wp2
 go_loopw [7] (fun vi wr => ∃ (i m : Nat), vi = .int .i64 i ∧ a < i ∧ i ≤ b ∧ Hid (wr = putRow encN (Sort.ahead w m) blk off d) ∧ Hid (∀ k, a < k → k < i → ltN d[k]! d[k - 1]! = false)) (fun vi _ => b + 1 - (intOf vi).toNat)
 case atStart => exact ⟨a + 1, 0, by go_num, by omega, by omega, (putRow_self _ _ _ _ _ HH.out).symm, fun k h1 h2 => by omega⟩
 case round =>
  obtain ⟨i, m, rfl, hai, hib, hw, hR⟩ := hrel
  obtain ⟨G, hG, hcw, hfw⟩ := row_facts HH.out rfl hw.out
  have HG := Go.Lib.hid hG
  clear hG
  have HX := Go.Lib.hid (fun q => show wr.drewN q = putRow encN (Sort.ahead w (m + q)) blk off d by rw [hw.out]; exact putRow_drewN _ _ _ _ _ _ _)
  by_cases hlt : i < b
  ·have j0 : i < d.size := by omega
   have j1 : i - 1 < d.size := by omega
   have hne : ¬ i = b := by omega
   cases hg : ltN (G i) (G (i - 1))
   ·have C := Go.Lib.hid (fun w => hg ▸ CL.out (G i) (G (i - 1)) w)
    have GO := Go.Lib.hid (show ∀ k, a < k → k < i + 1 → ltN d[k]! d[k - 1]! = false from fun k h1 h2 => by
     by_cases hk : k < i
     ·exact hR.out k h1 hk
     ·rw [show k = i by omega, ← HG.out, ← HG.out]; exact hg)
    clear hg
    go_wp2
    go_quiet (first | (go_at_call 134; refine Calls.quiet_of_same (C.out _)))
    go_wp2
    go_roundw
    case rel => exact ⟨i + 1, m + nq, by go_num, by omega, by omega, HX.out _, GO.out⟩
    case measure => simp [intOf]; omega
   ·have C := Go.Lib.hid (fun w => hg ▸ CL.out (G i) (G (i - 1)) w)
    clear hg
    go_wp2
    go_quiet (first | (go_at_call 134; refine Calls.quiet_of_same (C.out _)))
    go_wp2
    go_ret
    exact ⟨false, rfl, Go.Lib.hid (fun h => absurd h (by simp)), _, HX.out nq⟩
  ·have hib2 : i = b := by omega
   have hd : decide ((i : Int) < (b : Int)) = false := by simp; omega
   have DN := Go.Lib.hid (show SortedIn ltN a b d from sorted_of_steps (hib2 ▸ hR.out))
   subst hib2
   go_wp2
   go_quiet (first | (go_at_call 134; refine Calls.quiet_of_same (CL.out _ _ _)))
   go_wp2
   go_ret
   exact ⟨true, rfl, fun _ => DN.out, _, HX.out nq⟩
end Go.Proofs.YtlhdjdnflpilbaaGreatDoor.Srt
namespace Go.Proofs.YtlhdjdnflpilbaaGreatDoor.Srt
open Go.RowKit Go.Sort
theorem scanS_go {d : Array Nat} {b i : Nat} (h : i < b) (hl : ltN d[i]! d[i - 1]! = false) : scanSorted ltN d b i = scanSorted ltN d b (i + 1) := by
 rw [scanSorted, if_pos (by simp [h, hl])]
theorem scanS_stop {d : Array Nat} {b i : Nat} (h : ¬ i < b ∨ ltN d[i]! d[i - 1]! = true) : scanSorted ltN d b i = i := by
 rw [scanSorted, if_neg (by rcases h with h | h <;> simp [h])]
theorem down_go {j : Nat} {d : Array Nat} (hj : 1 ≤ j) (hl : ltN d[j]! d[j - 1]! = true) : shiftDown ltN j d = shiftDown ltN (j - 1) (swp d j (j - 1)) := by
 obtain ⟨k, rfl⟩ : ∃ k, j = k + 1 := ⟨j - 1, by omega⟩
 rw [shiftDown, if_neg (by simpa using hl)]; rfl
theorem down_stop {j : Nat} {d : Array Nat} (h : j = 0 ∨ ltN d[j]! d[j - 1]! = false) : shiftDown ltN j d = d := by
 cases j with
 | zero => rfl
 | succ k =>
  have hl : ltN d[k + 1]! d[k]! = false := by rcases h with h | h; omega; simpa using h
  rw [shiftDown, if_pos (by simp [hl])]
theorem up_go {b j : Nat} {d : Array Nat} (hj : j < b) (hl : ltN d[j]! d[j - 1]! = true) : shiftUp ltN b j d = shiftUp ltN b (j + 1) (swp d j (j - 1)) := by
 rw [shiftUp, if_pos hj, if_neg (by simpa using hl)]
theorem up_stop {b j : Nat} {d : Array Nat} (h : ¬ j < b ∨ ltN d[j]! d[j - 1]! = false) : shiftUp ltN b j d = d := by
 rw [shiftUp]
 by_cases hj : j < b
 ·rw [if_pos hj, if_pos (by rcases h with h | h; exact absurd hj h; simp [h])]
 ·rw [if_neg hj]
def stepS (a b i : Nat) (d : Array Nat) : Array Nat :=
 let d := swp d i (i - 1)
 let d := if i - a ≥ 2 then shiftDown ltN (i - 1) d else d
 if b - i ≥ 2 then shiftUp ltN b (i + 1) d else d
theorem partialIns_step {a b s i0 i : Nat} {d : Array Nat} (hi : i = scanSorted ltN d b i0) (hb : i ≠ b) (h50 : ¬ b - a < 50) : partialIns ltN a b (s + 1) i0 d = partialIns ltN a b s i (stepS a b i d) := by
 rw [partialIns]
 simp only
 rw [← hi, if_neg hb, if_neg h50]; rfl
theorem partialIns_end {a b s i0 i : Nat} {d : Array Nat} (hi : i = scanSorted ltN d b i0) (hb : i = b) : partialIns ltN a b (s + 1) i0 d = (d, true) := by
 rw [partialIns]
 simp only
 rw [← hi, if_pos hb]
def Shifted (blk off : Nat) (p : Array Nat × Bool) (w : World) (e : Ending) (w' : World) : Prop :=
 e = .returned (.bool p.2) ∧ ∃ n, w' = putRow encN (Sort.ahead w n) blk off p.1
theorem swap_row {w wq : World} {mq blk off i j : Nat} {dk : Array Nat} (hw : wq = putRow encN (Sort.ahead w mq) blk off dk) (hi : i < dk.size) (hj : j < dk.size) (q : Nat) {x y : Nat} (hx : x = dk[j]!) (hy : y = dk[i]!) :
  (((wq.drewN q).setCell ⟨blk, off + i, none⟩ (.int .u32 x)).setCell ⟨blk, off + j, none⟩ (.int .u32 y)) = putRow encN (Sort.ahead w (mq + q)) blk off (swp dk i j) := by
 rw [hw, hx, hy]
 exact swap_worldA encN w mq q blk off dk i j hi hj
set_option maxRecDepth 100000 in
set_option maxHeartbeats 16000000 in
theorem partial_long (blk off cap a b : Nat) (d : Array Nat) (w : World) (hH : Holds encN w blk off d) (hb : b ≤ d.size) (hl : a + 50 ≤ b) (hsz : d.size < 1000000000) :
  Calls Tryz.prog 133 #[.slice (some ⟨blk, off, none⟩) d.size cap, .int .i64 a, .int .i64 b] w (Shifted blk off (partialInsertionSort ltN d a b) w) := by
 have HH := Go.Lib.hid hH
 have CL := Go.Lib.hid less_q
 have h50 := Go.Lib.hid (show ¬ b - a < 50 by omega)
 obtain ⟨R, hRR⟩ : ∃ R, R = partialInsertionSort ltN d a b := ⟨_, rfl⟩
 rw [← hRR]
 have HR := Go.Lib.hid hRR
 clear hH hRR
 go_enter Tryz.func133, Tryz.ntmps133
 go_wp2
 go_loopw [7, 8] (fun vi vk wr => ∃ (k i m : Nat) (dk : Array Nat), vk = .int .i64 k ∧ vi = .int .i64 i ∧ k ≤ 5 ∧ a < i ∧ i ≤ b ∧ dk.size = d.size ∧ wr = putRow encN (Sort.ahead w m) blk off dk ∧ Hid (partialIns ltN a b (5 - k) i dk = R)) (fun _ vk _ => 5 - (intOf vk).toNat)
 case atStart => exact ⟨0, a + 1, 0, d, rfl, by go_num, by omega, by omega, by omega, rfl, (putRow_self _ _ _ _ _ HH.out).symm, HR.out.symm⟩
 case round =>
  obtain ⟨k, i0, m0, dk, rfl, rfl, hk, hai0, hib0, hs, hw0, HP⟩ := hrel
  replace hw0 := Go.Lib.hid hw0
  by_cases hk5 : k < 5
  ·have hk5i : (k : Int) < 5 := by omega
   go_wp2
   go_loopw [7] (fun vi wr => ∃ (i m : Nat), vi = .int .i64 i ∧ i0 ≤ i ∧ i ≤ b ∧ Hid (wr = putRow encN (Sort.ahead w m) blk off dk) ∧ Hid (scanSorted ltN dk b i = scanSorted ltN dk b i0)) (fun vi _ => b + 1 - (intOf vi).toNat)
   case atStart => exact ⟨i0, m0, rfl, Nat.le_refl _, hib0, hw0, rfl⟩
   case round =>
    clear hw0
    obtain ⟨i, m, rfl, hi1, hi2, hwL, hR⟩ := hrel
    obtain ⟨G, hG, hcw, hfw⟩ := row_facts HH.out hs hwL.out
    have HG := Go.Lib.hid hG
    clear hG
    have HX := Go.Lib.hid (fun q => show wr.drewN q = putRow encN (Sort.ahead w (m + q)) blk off dk by rw [hwL.out]; exact putRow_drewN _ _ _ _ _ _ _)
    by_cases hlt : i < b
    ·have j0 : i < d.size := by omega
     have j1 : i - 1 < d.size := by omega
     cases hg : ltN (G i) (G (i - 1))
     ·have C := Go.Lib.hid (fun w => hg ▸ CL.out (G i) (G (i - 1)) w)
      have GO := Go.Lib.hid (show scanSorted ltN dk b (i + 1) = scanSorted ltN dk b i0 by rw [← hR.out]; exact (scanS_go hlt (by rw [← HG.out, ← HG.out]; exact hg)).symm)
      clear hg
      go_wp2
      go_big_quiet (first | (go_at_call 134; refine Calls.quiet_of_same (C.out _)))
      go_wp2
      go_roundw
      case rel => exact ⟨i + 1, m + nq, by go_num, by omega, by omega, HX.out _, GO.out⟩
      case measure => simp [intOf] <;> omega
     ·have HI := Go.Lib.hid (show i = scanSorted ltN dk b i0 by rw [← hR.out]; exact (scanS_stop (.inr (by rw [← HG.out, ← HG.out]; exact hg))).symm)
      have C := Go.Lib.hid (fun w => hg ▸ CL.out (G i) (G (i - 1)) w)
      have hwq := Go.Lib.hid (HX.out)
      have hne : i ≠ b := by omega
      have hne2 : ((i : Int) == (b : Int)) = false := by simp; omega
      have h502 : ¬ (b : Int) - (a : Int) < 50 := by have := h50.out; omega
      obtain ⟨d1, hd1⟩ : ∃ d1, d1 = swp dk i (i - 1) := ⟨_, rfl⟩
      have hs1 : d1.size = d.size := by rw [hd1, size_swp]; exact hs
      have HD1 := Go.Lib.hid hd1
      have HS := Go.Lib.hid (fun q => swap_row hwL.out (i := i) (j := i - 1) (by omega) (by omega) q (HG.out (i - 1)) (HG.out i))
      clear hg HX hR hd1
      by_cases hlb : a + 2 ≤ i
      ·have hb1 : (2 : Int) ≤ (i : Int) - (a : Int) := by omega
       by_cases hub : i + 2 ≤ b
       ·have hb2 : (2 : Int) ≤ (b : Int) - (i : Int) := by omega
        go_wp2
        go_big_quiet (first | (go_at_call 134; refine Calls.quiet_of_same (C.out _)))
        go_wp2
        go_region
        all_goals go_wp2_with fail
        have hw1 := Go.Lib.hid (HS.out (nq + 1))
        rw [← HD1.out] at hw1
        generalize m + (nq + 1) = m1 at hw1
        go_loopw [9] (fun vv wr => ∃ (j m : Nat) (d2 : Array Nat), vv = .int .i64 j ∧ j ≤ i - 1 ∧ d2.size = d.size ∧ Hid (wr = putRow encN (Sort.ahead w m) blk off d2) ∧ Hid (shiftDown ltN (j) d2 = shiftDown ltN (i - 1) d1)) (fun vv _ => (intOf vv).toNat)
        case atStart => exact ⟨i - 1, m1, d1, by congr 1; omega, by omega, hs1, hw1, rfl⟩
        case round =>
         clear hw1
         obtain ⟨j, m, d2, rfl, hjr, hs2, hwL, hR⟩ := hrel
         obtain ⟨G, hG, hcw, hfw⟩ := row_facts HH.out hs2 hwL.out
         have HG := Go.Lib.hid hG
         clear hG
         have HX := Go.Lib.hid (fun q => show wr.drewN q = putRow encN (Sort.ahead w (m + q)) blk off d2 by rw [hwL.out]; exact putRow_drewN _ _ _ _ _ _ _)
         by_cases hle : 1 ≤ j
         ·have j1 : j < d.size := by omega
          have j2 : j - 1 < d.size := by omega
          cases hg : ltN (G j) (G (j - 1))
          ·have H2 := Go.Lib.hid (show d2 = if 2 ≤ i - a then shiftDown ltN (i - 1) d1 else d1 by rw [if_pos (by omega), ← hR.out]; exact (down_stop (.inr (by rw [← HG.out, ← HG.out]; exact hg))).symm)
           have C := Go.Lib.hid (fun w => hg ▸ CL.out (G j) (G (j - 1)) w)
           clear hg
           go_wp2
           go_big_quiet (first | (go_at_call 134; refine Calls.quiet_of_same (C.out _)))
           have hw2 := Go.Lib.hid (HX.out nq)
           clear HX hcw hfw HG hR hwL
           generalize wr.drewN nq = wz at hw2 ⊢
           generalize m + nq = m2 at hw2
           clear wr
           go_wp2
           go_loopw [10] (fun vv wr => ∃ (j m : Nat) (d3 : Array Nat), vv = .int .i64 j ∧ (i + 1 ≤ j ∧ j ≤ b) ∧ d3.size = d.size ∧ Hid (wr = putRow encN (Sort.ahead w m) blk off d3) ∧ Hid (shiftUp ltN b (j) d3 = shiftUp ltN b (i + 1) d2)) (fun vv _ => b + 1 - (intOf vv).toNat)
           case atStart => exact ⟨i + 1, m2, d2, by go_num, by omega, hs2, hw2, rfl⟩
           case round =>
            clear hw2
            obtain ⟨j, m, d3, rfl, hjr, hs3, hwL, hR⟩ := hrel
            obtain ⟨G, hG, hcw, hfw⟩ := row_facts HH.out hs3 hwL.out
            have HG := Go.Lib.hid hG
            clear hG
            have HX := Go.Lib.hid (fun q => show wr.drewN q = putRow encN (Sort.ahead w (m + q)) blk off d3 by rw [hwL.out]; exact putRow_drewN _ _ _ _ _ _ _)
            by_cases hle : j < b
            ·have j1 : j < d.size := by omega
             have j2 : j - 1 < d.size := by omega
             cases hg : ltN (G j) (G (j - 1))
             ·have H3 := Go.Lib.hid (show d3 = if 2 ≤ b - i then shiftUp ltN b (i + 1) d2 else d2 by rw [if_pos (by omega), ← hR.out]; exact (up_stop (.inr (by rw [← HG.out, ← HG.out]; exact hg))).symm)
              have C := Go.Lib.hid (fun w => hg ▸ CL.out (G j) (G (j - 1)) w)
              clear hg
              go_wp2
              go_big_quiet (first | (go_at_call 134; refine Calls.quiet_of_same (C.out _)))
              have hw3 := Go.Lib.hid (HX.out nq)
              clear HX hcw hfw HG hR hwL
              generalize wr.drewN nq = wz at hw3 ⊢
              generalize m + nq = m3 at hw3
              clear wr
              have HQ := Go.Lib.hid (show stepS a b i dk = d3 by unfold stepS; simp only; rw [← HD1.out, ← H2.out, ← H3.out])
              go_wp2
              go_roundw
              case rel => exact ⟨k + 1, i, m3, d3, by go_num, rfl, by omega, by omega, by omega, hs3, hw3.out, by
               unfold Hid
               rw [← HP.out, show 5 - k = (5 - (k + 1)) + 1 by omega, partialIns_step HI.out hne h50.out, HQ.out]⟩
              case measure => simp [intOf] <;> omega
             ·have C := Go.Lib.hid (fun w => hg ▸ CL.out (G j) (G (j - 1)) w)
              have GO := Go.Lib.hid (show shiftUp ltN b (j + 1) (swp d3 j (j - 1)) = shiftUp ltN b (i + 1) d2 by rw [← hR.out, up_go hle (by rw [← HG.out, ← HG.out]; exact hg)])
              have HS := Go.Lib.hid (fun q => swap_row hwL.out (i := j) (j := j - 1) (by omega) (by omega) q (HG.out (j - 1)) (HG.out j))
              clear hg HX hwL HG hR
              go_wp2
              go_big_quiet (first | (go_at_call 134; refine Calls.quiet_of_same (C.out _)))
              go_wp2
              go_region
              all_goals go_wp2
              go_roundw
              case rel => exact ⟨j + 1, m + (nq + 1), swp d3 j (j - 1), by go_num, by omega, by rw [size_swp]; exact hs3, HS.out _, GO.out⟩
              case measure => simp [intOf] <;> omega
            ·have H3 := Go.Lib.hid (show d3 = if 2 ≤ b - i then shiftUp ltN b (i + 1) d2 else d2 by rw [if_pos (by omega), ← hR.out]; exact (up_stop (.inl (by omega))).symm)
             have hw3 := hwL
             clear HX hcw hfw HG hR hwL
             generalize m = m3 at hw3
             have HQ := Go.Lib.hid (show stepS a b i dk = d3 by unfold stepS; simp only; rw [← HD1.out, ← H2.out, ← H3.out])
             go_wp2
             go_roundw
             case rel => exact ⟨k + 1, i, m3, d3, by go_num, rfl, by omega, by omega, by omega, hs3, hw3.out, by
              unfold Hid
              rw [← HP.out, show 5 - k = (5 - (k + 1)) + 1 by omega, partialIns_step HI.out hne h50.out, HQ.out]⟩
             case measure => simp [intOf] <;> omega
          ·have C := Go.Lib.hid (fun w => hg ▸ CL.out (G j) (G (j - 1)) w)
           have GO := Go.Lib.hid (show shiftDown ltN (j - 1) (swp d2 j (j - 1)) = shiftDown ltN (i - 1) d1 by rw [← hR.out, down_go hle (by rw [← HG.out, ← HG.out]; exact hg)])
           have HS := Go.Lib.hid (fun q => swap_row hwL.out (i := j) (j := j - 1) (by omega) (by omega) q (HG.out (j - 1)) (HG.out j))
           clear hg HX hwL HG hR
           go_wp2
           go_big_quiet (first | (go_at_call 134; refine Calls.quiet_of_same (C.out _)))
           go_wp2
           go_region
           all_goals go_wp2
           go_roundw
           case rel => exact ⟨j - 1, m + (nq + 1), swp d2 j (j - 1), by congr 1; omega, by omega, by rw [size_swp]; exact hs2, HS.out _, GO.out⟩
           case measure => simp [intOf] <;> omega
         ·have H2 := Go.Lib.hid (show d2 = if 2 ≤ i - a then shiftDown ltN (i - 1) d1 else d1 by rw [if_pos (by omega), ← hR.out]; exact (down_stop (.inl (by omega))).symm)
          have hw2 := hwL
          clear HX hcw hfw HG hR hwL
          generalize m = m2 at hw2
          go_wp2
          go_loopw [10] (fun vv wr => ∃ (j m : Nat) (d3 : Array Nat), vv = .int .i64 j ∧ (i + 1 ≤ j ∧ j ≤ b) ∧ d3.size = d.size ∧ Hid (wr = putRow encN (Sort.ahead w m) blk off d3) ∧ Hid (shiftUp ltN b (j) d3 = shiftUp ltN b (i + 1) d2)) (fun vv _ => b + 1 - (intOf vv).toNat)
          case atStart => exact ⟨i + 1, m2, d2, by go_num, by omega, hs2, hw2, rfl⟩
          case round =>
           clear hw2
           obtain ⟨j, m, d3, rfl, hjr, hs3, hwL, hR⟩ := hrel
           obtain ⟨G, hG, hcw, hfw⟩ := row_facts HH.out hs3 hwL.out
           have HG := Go.Lib.hid hG
           clear hG
           have HX := Go.Lib.hid (fun q => show wr.drewN q = putRow encN (Sort.ahead w (m + q)) blk off d3 by rw [hwL.out]; exact putRow_drewN _ _ _ _ _ _ _)
           by_cases hle : j < b
           ·have j1 : j < d.size := by omega
            have j2 : j - 1 < d.size := by omega
            cases hg : ltN (G j) (G (j - 1))
            ·have H3 := Go.Lib.hid (show d3 = if 2 ≤ b - i then shiftUp ltN b (i + 1) d2 else d2 by rw [if_pos (by omega), ← hR.out]; exact (up_stop (.inr (by rw [← HG.out, ← HG.out]; exact hg))).symm)
             have C := Go.Lib.hid (fun w => hg ▸ CL.out (G j) (G (j - 1)) w)
             clear hg
             go_wp2
             go_big_quiet (first | (go_at_call 134; refine Calls.quiet_of_same (C.out _)))
             have hw3 := Go.Lib.hid (HX.out nq)
             clear HX hcw hfw HG hR hwL
             generalize wr.drewN nq = wz at hw3 ⊢
             generalize m + nq = m3 at hw3
             clear wr
             have HQ := Go.Lib.hid (show stepS a b i dk = d3 by unfold stepS; simp only; rw [← HD1.out, ← H2.out, ← H3.out])
             go_wp2
             go_roundw
             case rel => exact ⟨k + 1, i, m3, d3, by go_num, rfl, by omega, by omega, by omega, hs3, hw3.out, by
              unfold Hid
              rw [← HP.out, show 5 - k = (5 - (k + 1)) + 1 by omega, partialIns_step HI.out hne h50.out, HQ.out]⟩
             case measure => simp [intOf] <;> omega
            ·have C := Go.Lib.hid (fun w => hg ▸ CL.out (G j) (G (j - 1)) w)
             have GO := Go.Lib.hid (show shiftUp ltN b (j + 1) (swp d3 j (j - 1)) = shiftUp ltN b (i + 1) d2 by rw [← hR.out, up_go hle (by rw [← HG.out, ← HG.out]; exact hg)])
             have HS := Go.Lib.hid (fun q => swap_row hwL.out (i := j) (j := j - 1) (by omega) (by omega) q (HG.out (j - 1)) (HG.out j))
             clear hg HX hwL HG hR
             go_wp2
             go_big_quiet (first | (go_at_call 134; refine Calls.quiet_of_same (C.out _)))
             go_wp2
             go_region
             all_goals go_wp2
             go_roundw
             case rel => exact ⟨j + 1, m + (nq + 1), swp d3 j (j - 1), by go_num, by omega, by rw [size_swp]; exact hs3, HS.out _, GO.out⟩
             case measure => simp [intOf] <;> omega
           ·have H3 := Go.Lib.hid (show d3 = if 2 ≤ b - i then shiftUp ltN b (i + 1) d2 else d2 by rw [if_pos (by omega), ← hR.out]; exact (up_stop (.inl (by omega))).symm)
            have hw3 := hwL
            clear HX hcw hfw HG hR hwL
            generalize m = m3 at hw3
            have HQ := Go.Lib.hid (show stepS a b i dk = d3 by unfold stepS; simp only; rw [← HD1.out, ← H2.out, ← H3.out])
            go_wp2
            go_roundw
            case rel => exact ⟨k + 1, i, m3, d3, by go_num, rfl, by omega, by omega, by omega, hs3, hw3.out, by
             unfold Hid
             rw [← HP.out, show 5 - k = (5 - (k + 1)) + 1 by omega, partialIns_step HI.out hne h50.out, HQ.out]⟩
            case measure => simp [intOf] <;> omega
       ·have hb2 : ¬ (2 : Int) ≤ (b : Int) - (i : Int) := by omega
        go_wp2
        go_big_quiet (first | (go_at_call 134; refine Calls.quiet_of_same (C.out _)))
        go_wp2
        go_region
        all_goals go_wp2_with fail
        have hw1 := Go.Lib.hid (HS.out (nq + 1))
        rw [← HD1.out] at hw1
        generalize m + (nq + 1) = m1 at hw1
        go_loopw [9] (fun vv wr => ∃ (j m : Nat) (d2 : Array Nat), vv = .int .i64 j ∧ j ≤ i - 1 ∧ d2.size = d.size ∧ Hid (wr = putRow encN (Sort.ahead w m) blk off d2) ∧ Hid (shiftDown ltN (j) d2 = shiftDown ltN (i - 1) d1)) (fun vv _ => (intOf vv).toNat)
        case atStart => exact ⟨i - 1, m1, d1, by congr 1; omega, by omega, hs1, hw1, rfl⟩
        case round =>
         clear hw1
         obtain ⟨j, m, d2, rfl, hjr, hs2, hwL, hR⟩ := hrel
         obtain ⟨G, hG, hcw, hfw⟩ := row_facts HH.out hs2 hwL.out
         have HG := Go.Lib.hid hG
         clear hG
         have HX := Go.Lib.hid (fun q => show wr.drewN q = putRow encN (Sort.ahead w (m + q)) blk off d2 by rw [hwL.out]; exact putRow_drewN _ _ _ _ _ _ _)
         by_cases hle : 1 ≤ j
         ·have j1 : j < d.size := by omega
          have j2 : j - 1 < d.size := by omega
          cases hg : ltN (G j) (G (j - 1))
          ·have H2 := Go.Lib.hid (show d2 = if 2 ≤ i - a then shiftDown ltN (i - 1) d1 else d1 by rw [if_pos (by omega), ← hR.out]; exact (down_stop (.inr (by rw [← HG.out, ← HG.out]; exact hg))).symm)
           have C := Go.Lib.hid (fun w => hg ▸ CL.out (G j) (G (j - 1)) w)
           clear hg
           go_wp2
           go_big_quiet (first | (go_at_call 134; refine Calls.quiet_of_same (C.out _)))
           have hw2 := Go.Lib.hid (HX.out nq)
           clear HX hcw hfw HG hR hwL
           generalize wr.drewN nq = wz at hw2 ⊢
           generalize m + nq = m2 at hw2
           clear wr
           have H3 := Go.Lib.hid (show d2 = if 2 ≤ b - i then shiftUp ltN b (i + 1) d2 else d2 from (if_neg (by omega)).symm)
           have HQ := Go.Lib.hid (show stepS a b i dk = d2 by unfold stepS; simp only; rw [← HD1.out, ← H2.out, ← H3.out])
           go_wp2
           go_roundw
           case rel => exact ⟨k + 1, i, m2, d2, by go_num, rfl, by omega, by omega, by omega, hs2, hw2.out, by
            unfold Hid
            rw [← HP.out, show 5 - k = (5 - (k + 1)) + 1 by omega, partialIns_step HI.out hne h50.out, HQ.out]⟩
           case measure => simp [intOf] <;> omega
          ·have C := Go.Lib.hid (fun w => hg ▸ CL.out (G j) (G (j - 1)) w)
           have GO := Go.Lib.hid (show shiftDown ltN (j - 1) (swp d2 j (j - 1)) = shiftDown ltN (i - 1) d1 by rw [← hR.out, down_go hle (by rw [← HG.out, ← HG.out]; exact hg)])
           have HS := Go.Lib.hid (fun q => swap_row hwL.out (i := j) (j := j - 1) (by omega) (by omega) q (HG.out (j - 1)) (HG.out j))
           clear hg HX hwL HG hR
           go_wp2
           go_big_quiet (first | (go_at_call 134; refine Calls.quiet_of_same (C.out _)))
           go_wp2
           go_region
           all_goals go_wp2
           go_roundw
           case rel => exact ⟨j - 1, m + (nq + 1), swp d2 j (j - 1), by congr 1; omega, by omega, by rw [size_swp]; exact hs2, HS.out _, GO.out⟩
           case measure => simp [intOf] <;> omega
         ·have H2 := Go.Lib.hid (show d2 = if 2 ≤ i - a then shiftDown ltN (i - 1) d1 else d1 by rw [if_pos (by omega), ← hR.out]; exact (down_stop (.inl (by omega))).symm)
          have hw2 := hwL
          clear HX hcw hfw HG hR hwL
          generalize m = m2 at hw2
          have H3 := Go.Lib.hid (show d2 = if 2 ≤ b - i then shiftUp ltN b (i + 1) d2 else d2 from (if_neg (by omega)).symm)
          have HQ := Go.Lib.hid (show stepS a b i dk = d2 by unfold stepS; simp only; rw [← HD1.out, ← H2.out, ← H3.out])
          go_wp2
          go_roundw
          case rel => exact ⟨k + 1, i, m2, d2, by go_num, rfl, by omega, by omega, by omega, hs2, hw2.out, by
           unfold Hid
           rw [← HP.out, show 5 - k = (5 - (k + 1)) + 1 by omega, partialIns_step HI.out hne h50.out, HQ.out]⟩
          case measure => simp [intOf] <;> omega
      ·have hb1 : ¬ (2 : Int) ≤ (i : Int) - (a : Int) := by omega
       by_cases hub : i + 2 ≤ b
       ·have hb2 : (2 : Int) ≤ (b : Int) - (i : Int) := by omega
        go_wp2
        go_big_quiet (first | (go_at_call 134; refine Calls.quiet_of_same (C.out _)))
        go_wp2
        go_region
        all_goals go_wp2_with fail
        have hw1 := Go.Lib.hid (HS.out (nq + 1))
        rw [← HD1.out] at hw1
        generalize m + (nq + 1) = m1 at hw1
        have H2 := Go.Lib.hid (show d1 = if 2 ≤ i - a then shiftDown ltN (i - 1) d1 else d1 from (if_neg (by omega)).symm)
        go_loopw [10] (fun vv wr => ∃ (j m : Nat) (d3 : Array Nat), vv = .int .i64 j ∧ (i + 1 ≤ j ∧ j ≤ b) ∧ d3.size = d.size ∧ Hid (wr = putRow encN (Sort.ahead w m) blk off d3) ∧ Hid (shiftUp ltN b (j) d3 = shiftUp ltN b (i + 1) d1)) (fun vv _ => b + 1 - (intOf vv).toNat)
        case atStart => exact ⟨i + 1, m1, d1, by go_num, by omega, hs1, hw1, rfl⟩
        case round =>
         clear hw1
         obtain ⟨j, m, d3, rfl, hjr, hs3, hwL, hR⟩ := hrel
         obtain ⟨G, hG, hcw, hfw⟩ := row_facts HH.out hs3 hwL.out
         have HG := Go.Lib.hid hG
         clear hG
         have HX := Go.Lib.hid (fun q => show wr.drewN q = putRow encN (Sort.ahead w (m + q)) blk off d3 by rw [hwL.out]; exact putRow_drewN _ _ _ _ _ _ _)
         by_cases hle : j < b
         ·have j1 : j < d.size := by omega
          have j2 : j - 1 < d.size := by omega
          cases hg : ltN (G j) (G (j - 1))
          ·have H3 := Go.Lib.hid (show d3 = if 2 ≤ b - i then shiftUp ltN b (i + 1) d1 else d1 by rw [if_pos (by omega), ← hR.out]; exact (up_stop (.inr (by rw [← HG.out, ← HG.out]; exact hg))).symm)
           have C := Go.Lib.hid (fun w => hg ▸ CL.out (G j) (G (j - 1)) w)
           clear hg
           go_wp2
           go_big_quiet (first | (go_at_call 134; refine Calls.quiet_of_same (C.out _)))
           have hw3 := Go.Lib.hid (HX.out nq)
           clear HX hcw hfw HG hR hwL
           generalize wr.drewN nq = wz at hw3 ⊢
           generalize m + nq = m3 at hw3
           clear wr
           have HQ := Go.Lib.hid (show stepS a b i dk = d3 by unfold stepS; simp only; rw [← HD1.out, ← H2.out, ← H3.out])
           go_wp2
           go_roundw
           case rel => exact ⟨k + 1, i, m3, d3, by go_num, rfl, by omega, by omega, by omega, hs3, hw3.out, by
            unfold Hid
            rw [← HP.out, show 5 - k = (5 - (k + 1)) + 1 by omega, partialIns_step HI.out hne h50.out, HQ.out]⟩
           case measure => simp [intOf] <;> omega
          ·have C := Go.Lib.hid (fun w => hg ▸ CL.out (G j) (G (j - 1)) w)
           have GO := Go.Lib.hid (show shiftUp ltN b (j + 1) (swp d3 j (j - 1)) = shiftUp ltN b (i + 1) d1 by rw [← hR.out, up_go hle (by rw [← HG.out, ← HG.out]; exact hg)])
           have HS := Go.Lib.hid (fun q => swap_row hwL.out (i := j) (j := j - 1) (by omega) (by omega) q (HG.out (j - 1)) (HG.out j))
           clear hg HX hwL HG hR
           go_wp2
           go_big_quiet (first | (go_at_call 134; refine Calls.quiet_of_same (C.out _)))
           go_wp2
           go_region
           all_goals go_wp2
           go_roundw
           case rel => exact ⟨j + 1, m + (nq + 1), swp d3 j (j - 1), by go_num, by omega, by rw [size_swp]; exact hs3, HS.out _, GO.out⟩
           case measure => simp [intOf] <;> omega
         ·have H3 := Go.Lib.hid (show d3 = if 2 ≤ b - i then shiftUp ltN b (i + 1) d1 else d1 by rw [if_pos (by omega), ← hR.out]; exact (up_stop (.inl (by omega))).symm)
          have hw3 := hwL
          clear HX hcw hfw HG hR hwL
          generalize m = m3 at hw3
          have HQ := Go.Lib.hid (show stepS a b i dk = d3 by unfold stepS; simp only; rw [← HD1.out, ← H2.out, ← H3.out])
          go_wp2
          go_roundw
          case rel => exact ⟨k + 1, i, m3, d3, by go_num, rfl, by omega, by omega, by omega, hs3, hw3.out, by
           unfold Hid
           rw [← HP.out, show 5 - k = (5 - (k + 1)) + 1 by omega, partialIns_step HI.out hne h50.out, HQ.out]⟩
          case measure => simp [intOf] <;> omega
       ·exfalso; omega
    ·obtain rfl : i = b := by omega
     have hd : decide ((i : Int) < (i : Int)) = false := by simp
     have DN := Go.Lib.hid (show R = (dk, true) by rw [← HP.out, show 5 - k = (4 - k) + 1 by omega]; exact partialIns_end (by rw [← hR.out]; exact (scanS_stop (.inl hlt)).symm) rfl)
     go_wp2
     go_big_quiet (first | (go_at_call 134; refine Calls.quiet_of_same (CL.out _ _ _)))
     go_wp2
     go_ret
     exact ⟨by rw [DN.out]; rfl, _, by rw [DN.out]; exact HX.out nq⟩
  ·have hk5i : ¬ (k : Int) < 5 := by omega
   have DN := Go.Lib.hid (show R = (dk, false) by rw [← HP.out, show 5 - k = 0 by omega]; rfl)
   go_wp2
   go_ret
   exact ⟨by rw [DN.out]; rfl, _, by rw [DN.out]; exact hw0.out⟩
end Go.Proofs.YtlhdjdnflpilbaaGreatDoor.Srt
