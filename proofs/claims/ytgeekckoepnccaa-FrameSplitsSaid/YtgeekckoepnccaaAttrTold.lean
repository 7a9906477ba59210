/- What is told of an error, as it lies in memory, and the reference's Told. -/
import Derived.Test.YtgeekckoepnccaaAttrMem
import Derived.Test.YtgeekckoepnccaaOctRead
import Derived.BigQuiet
import Derived.RegionTactic
namespace Go.Proofs.Ytgeekckoepnccaa.Att
open Go.RowKit Mem Oct

/-- What is told. -/
structure No where
  code : Int
  sub : Int
  data : List Nat
def Note (W : World) (v : Value) (n : No) : Prop := (Lit.int .i64 n.code).wf = true ∧ (Lit.int .i64 n.sub).wf = true ∧ ∃ vd, v = .agg #[.int .i64 n.code, .int .i64 n.sub, vd] ∧ U8s W vd n.data
theorem Note.keep {W W' : World} {v : Value} {n : No} (h : Note W v n) (hb : Below W.heap.size W W') : Note W' v n :=
  let ⟨h1, h2, vd, h3, h4⟩ := h
  ⟨h1, h2, vd, h3, h4.keep hb⟩
def sameN (a b : No) : Bool := decide (a.code = b.code) && decide (a.sub = b.sub) && decide (a.data = b.data)
theorem sameN_iff {a b : No} : sameN a b = true ↔ a = b := by
  obtain ⟨a0, a1, a2⟩ := a
  obtain ⟨b0, b1, b2⟩ := b
  simp [sameN, and_assoc]
theorem three_cells (W : World) (x y z : Value) (t : TypeId) : (W.alloc (.cells #[x, y, z] t)).cell? ⟨W.heap.size, 0, none⟩ = some x ∧ (W.alloc (.cells #[x, y, z] t)).cell? ⟨W.heap.size, 1, none⟩ = some y ∧ (W.alloc (.cells #[x, y, z] t)).cell? ⟨W.heap.size, 2, none⟩ = some z := by
  refine ⟨?_, ?_, ?_⟩ <;> simp [go_sem]
theorem keepsT {W w1 : World} (hb : Below W.heap.size W w1) {a : Addr} {v : Value} (h : W.cell? a = some v) : w1.cell? a = some v :=
  (hb.cell (block_lt_of_cell h)).trans h
set_option maxHeartbeats 2000000 in
theorem told_any (va vb : Value) (a b : No) (w : World) (ha : Note w va a) (hb : Note w vb b) : Calls Try.prog 14 #[va, vb] w (Tells (.bool (sameN a b)) w) := by
  obtain ⟨-, -, vd, rfl, hd⟩ := ha
  obtain ⟨-, -, vd', rfl, hd'⟩ := hb
  obtain ⟨c, s, l⟩ := a
  obtain ⟨c', s', l'⟩ := b
  dsimp only at hd hd' ⊢
  have B1 : Below w.heap.size w (w.alloc (.cells #[.int .i64 c, .int .i64 s, vd] 29)) := (Below.refl _ w).alloc (Nat.le_refl _) _
  have B2 : Below (w.alloc (.cells #[.int .i64 c, .int .i64 s, vd] 29)).heap.size (w.alloc (.cells #[.int .i64 c, .int .i64 s, vd] 29)) ((w.alloc (.cells #[.int .i64 c, .int .i64 s, vd] 29)).alloc (.cells #[.int .i64 c', .int .i64 s', vd'] 29)) := (Below.refl _ _).alloc (Nat.le_refl _) _
  have BB := Go.Lib.hid (B1.trans (B2.mono B1.size))
  have t1 := text8 (hd.keep BB.out)
  have t2 := text8 (hd'.keep BB.out)
  have t3 := txt_eq hd.2 hd'.2
  obtain ⟨a0, a1, a2⟩ := three_cells w (.int .i64 c) (.int .i64 s) vd 29
  replace a0 := keepsT B2 a0
  replace a1 := keepsT B2 a1
  replace a2 := keepsT B2 a2
  obtain ⟨b0, b1, b2⟩ := three_cells (w.alloc (.cells #[.int .i64 c, .int .i64 s, vd] 29)) (.int .i64 c') (.int .i64 s') vd' 29
  have e : (w.alloc (.cells #[.int .i64 c, .int .i64 s, vd] 29)).heap.size = w.heap.size + 1 := by simp
  rw [e] at b0 b1 b2
  clear hd hd' B1 B2 e
  unfold sameN
  dsimp only
  by_cases h1 : c = c'
  case neg =>
    have y : (c == c') = false := by simp [h1]
    rw [decide_eq_false h1]
    go_enter Try.func14, Try.ntmps14
    go_wp2
    go_ret
    exact ⟨rfl, BB.out⟩
  subst h1
  by_cases h2 : s = s'
  case neg =>
    have y : (s == s') = false := by simp [h2]
    rw [decide_eq_false h2, decide_eq_true rfl]
    go_enter Try.func14, Try.ntmps14
    go_wp2
    go_ret
    exact ⟨rfl, BB.out⟩
  subst h2
  rw [decide_eq_true rfl, decide_eq_true rfl]
  simp only [Bool.true_and]
  generalize decide (l = l') = r at t3
  go_enter Try.func14, Try.ntmps14
  go_wp2
  go_ret
  exact ⟨rfl, BB.out⟩
end Go.Proofs.Ytgeekckoepnccaa.Att
