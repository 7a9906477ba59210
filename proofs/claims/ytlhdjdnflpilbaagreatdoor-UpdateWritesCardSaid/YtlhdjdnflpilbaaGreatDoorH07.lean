/- A reader as it stands in memory, or none; what New, Bad and Left tell. What is told of an error, as it lies in memory, and the reference's Told. -/
import Derived.Test.YtlhdjdnflpilbaaGreatDoorH03
import Derived.BigQuiet
import Derived.BigRegion
import Derived.RegionTactic
import Derived.Lib.QuietBelow
import Derived.Deep.RegionHeld3
namespace Go.Proofs.YtlhdjdnflpilbaaGreatDoor.Oct
open Go.RowKit Mem
theorem elem8 : ∃ i, IsElem Tryz.prog 31 5 1 1 i (.int .u8 0) := IsElem.mk_ Tryz.underlying31 (by kernel_rfl) rfl (by decide)
theorem text8 {w : World} {v : Value} {l : List Nat} (h : U8s w v l) : (convert 31 9 v).run Tryz.prog w = .ok (.string (txt l)) w :=
 h.text _ _ _ Tryz.underlying31 Tryz.underlying5 Tryz.underlying9
def fails (l : List Nat) (bad : Bool) (k : Int) : Bool := bad || decide (k < 0) || decide ((l.length : Int) < k)
def got (l : List Nat) (bad : Bool) (k : Int) : List Nat := if fails l bad k then [] else l.take k.toNat
def rest (l : List Nat) (bad : Bool) (k : Int) : List Nat := if fails l bad k then [] else l.drop k.toNat
def R (W : World) (base n : Nat) (v : Value) (l : List Nat) (bad : Bool) (F : Nat → Prop) : Prop :=
 (v = .pointer none ∧ l = [] ∧ bad = true ∧ F = fun _ => False) ∨
 ∃ b s, v = .pointer (some ⟨b, 0, none⟩) ∧ base ≤ b ∧ b < n ∧ n ≤ W.heap.size ∧ W.heap[b]? = some (.cells #[s, .bool bad] 103) ∧ U8s W s l ∧ Lies n F s ∧ (bad = true → l = []) ∧ F = fun k => k = b
theorem R.keep {W W' : World} {base n : Nat} {v : Value} {l : List Nat} {bad : Bool} {F : Nat → Prop} (h : R W base n v l bad F) (hb : ∀ k, k < n → W'.heap[k]? = W.heap[k]?) (hs : W.heap.size ≤ W'.heap.size) : R W' base n v l bad F := by
 rcases h with h | ⟨b, s, h1, h2, h3, h4, h5, h6, h7, h8⟩
 ·exact .inl h
 ·exact .inr ⟨b, s, h1, h2, h3, Nat.le_trans h4 hs, (hb b h3).trans h5, h6.part (fun g hg => hb g (h7 g hg).1) hs, h7, h8⟩
theorem R.below {W W' : World} {base n : Nat} {v : Value} {l : List Nat} {bad : Bool} {F : Nat → Prop} (h : R W base n v l bad F) (hb : Below W.heap.size W W') : R W' base n v l bad F := by
 rcases h with h | ⟨b, s, h1, h2, h3, h4, h5⟩
 ·exact .inl h
 ·exact R.keep (.inr ⟨b, s, h1, h2, h3, h4, h5⟩) (fun k hk => hb.block k (by omega)) hb.size
theorem R.far {W W' : World} {base n : Nat} {v : Value} {l : List Nat} {bad : Bool} {F G : Nat → Prop} (h : R W base n v l bad F) (ho : Only G W W') (hG : ∀ k, G k → n ≤ k) : R W' base n v l bad F := by
 rcases h with h | ⟨b, s, h1, h2, h3, h4, h5⟩
 ·exact .inl h
 ·exact R.keep (.inr ⟨b, s, h1, h2, h3, h4, h5⟩) (fun k hk => ho.block k (by omega) (fun hg => by have := hG k hg; omega)) ho.size
theorem R.low {W : World} {base n : Nat} {v : Value} {l : List Nat} {bad : Bool} {F : Nat → Prop} (h : R W base n v l bad F) : ∀ k, F k → base ≤ k ∧ k < n := by
 rcases h with ⟨_, _, _, rfl⟩ | ⟨b, s, h1, h2, h3, h4, h5, h6, h7, h8, rfl⟩
 ·exact fun k hk => False.elim hk
 ·rintro k rfl
  exact ⟨h2, h3⟩
theorem cell0 {W : World} {b : Nat} {x y : Value} {t : TypeId} (h : W.heap[b]? = some (.cells #[x, y] t)) : W.cell? ⟨b, 0, none⟩ = some x ∧ W.cell? ⟨b, 1, none⟩ = some y := by
 simp [World.cell?, h]
theorem free0 {W : World} {b : Nat} {x y : Value} {t : TypeId} (h : W.heap[b]? = some (.cells #[x, y] t)) : W.frozen? ⟨b, 0, none⟩ = false ∧ W.frozen? ⟨b, 1, none⟩ = false := by
 simp [World.frozen?, h]
theorem bad_any (v : Value) (base n : Nat) (l : List Nat) (bad : Bool) (F : Nat → Prop) (w : World) (hR : R w base n v l bad F) : Calls Tryz.prog 44 #[v] w (Tells (.bool bad) w) := by
 have HB := Go.Lib.hid (Below.refl w.heap.size w)
 rcases hR with ⟨rfl, _, rfl, _⟩ | ⟨b, s, rfl, -, -, -, h5, -⟩
 ·go_enter Tryz.func44, Tryz.ntmps44
  go_wp2
  go_ret
  exact ⟨rfl, HB.out⟩
 ·obtain ⟨c0, c1⟩ := cell0 h5
  clear h5
  go_enter Tryz.func44, Tryz.ntmps44
  go_wp2
  go_ret
  exact ⟨rfl, HB.out⟩
theorem left_any (v : Value) (base n : Nat) (l : List Nat) (bad : Bool) (F : Nat → Prop) (w : World) (hR : R w base n v l bad F) : Calls Tryz.prog 47 #[v] w (Tells (.int .i64 l.length) w) := by
 have HB := Go.Lib.hid (Below.refl w.heap.size w)
 rcases hR with ⟨rfl, rfl, rfl, _⟩ | ⟨b, s, rfl, -, -, -, h5, h6, -⟩
 ·go_enter Tryz.func47, Tryz.ntmps47
  go_wp2
  go_ret
  exact ⟨rfl, HB.out⟩
 ·obtain ⟨c0, c1⟩ := cell0 h5
  obtain ⟨A, c, rfl, _, _⟩ := h6.form
  clear h5 h6
  go_enter Tryz.func47, Tryz.ntmps47
  go_wp2
  go_ret
  exact ⟨rfl, HB.out⟩
end Go.Proofs.YtlhdjdnflpilbaaGreatDoor.Oct
namespace Go.Proofs.YtlhdjdnflpilbaaGreatDoor.Att
open Go.RowKit Mem Oct
structure No where
 code : Int
 sub : Int
 data : List Nat
def Note (W : World) (v : Value) (n : No) : Prop := (Lit.int .i64 n.code).wf = true ∧ (Lit.int .i64 n.sub).wf = true ∧ ∃ vd, v = .agg #[.int .i64 n.code, .int .i64 n.sub, vd] ∧ U8s W vd n.data
theorem Note.keep {W W' : World} {v : Value} {n : No} (h : Note W v n) (hb : Below W.heap.size W W') : Note W' v n :=
 let ⟨h1, h2, vd, h3, h4⟩ := h
 ⟨h1, h2, vd, h3, h4.keep hb⟩
def sameN (a b : No) : Bool := decide (a.code = b.code) && decide (a.sub = b.sub) && decide (a.data = b.data)
theorem sameN_iff {a b : No} : sameN a b = true ↔ a = b := by
 obtain ⟨a0, a1, a2⟩ := a
 obtain ⟨b0, b1, b2⟩ := b
 simp [sameN, and_assoc]
theorem three_cells (W : World) (x y z : Value) (t : TypeId) : (W.alloc (.cells #[x, y, z] t)).cell? ⟨W.heap.size, 0, none⟩ = some x ∧ (W.alloc (.cells #[x, y, z] t)).cell? ⟨W.heap.size, 1, none⟩ = some y ∧ (W.alloc (.cells #[x, y, z] t)).cell? ⟨W.heap.size, 2, none⟩ = some z := by
 refine ⟨?_, ?_, ?_⟩ <;> simp [go_sem]
theorem keepsT {W w1 : World} (hb : Below W.heap.size W w1) {a : Addr} {v : Value} (h : W.cell? a = some v) : w1.cell? a = some v :=
 (hb.cell (block_lt_of_cell h)).trans h
set_option maxHeartbeats 2000000 in
theorem told_any (va vb : Value) (a b : No) (w : World) (ha : Note w va a) (hb : Note w vb b) : Calls Tryz.prog 15 #[va, vb] w (Tells (.bool (sameN a b)) w) := by
 obtain ⟨-, -, vd, rfl, hd⟩ := ha
 obtain ⟨-, -, vd', rfl, hd'⟩ := hb
 obtain ⟨c, s, l⟩ := a
 obtain ⟨c', s', l'⟩ := b
 dsimp only at hd hd' ⊢
 have B1 : Below w.heap.size w (w.alloc (.cells #[.int .i64 c, .int .i64 s, vd] 41)) := (Below.refl _ w).alloc (Nat.le_refl _) _
 have B2 : Below (w.alloc (.cells #[.int .i64 c, .int .i64 s, vd] 41)).heap.size (w.alloc (.cells #[.int .i64 c, .int .i64 s, vd] 41)) ((w.alloc (.cells #[.int .i64 c, .int .i64 s, vd] 41)).alloc (.cells #[.int .i64 c', .int .i64 s', vd'] 41)) := (Below.refl _ _).alloc (Nat.le_refl _) _
 have BB := Go.Lib.hid (B1.trans (B2.mono B1.size))
 have t1 := text8 (hd.keep BB.out)
 have t2 := text8 (hd'.keep BB.out)
 have t3 := txt_eq hd.2 hd'.2
 obtain ⟨a0, a1, a2⟩ := three_cells w (.int .i64 c) (.int .i64 s) vd 41
 replace a0 := keepsT B2 a0
 replace a1 := keepsT B2 a1
 replace a2 := keepsT B2 a2
 obtain ⟨b0, b1, b2⟩ := three_cells (w.alloc (.cells #[.int .i64 c, .int .i64 s, vd] 41)) (.int .i64 c') (.int .i64 s') vd' 41
 have e : (w.alloc (.cells #[.int .i64 c, .int .i64 s, vd] 41)).heap.size = w.heap.size + 1 := by simp
 rw [e] at b0 b1 b2
 clear hd hd' B1 B2 e
 unfold sameN
 dsimp only
 by_cases h1 : c = c'
 case neg =>
  have y : (c == c') = false := by simp [h1]
  rw [decide_eq_false h1]
  go_enter Tryz.func15, Tryz.ntmps15
  go_wp2
  go_ret
  exact ⟨rfl, BB.out⟩
 subst h1
 by_cases h2 : s = s'
 case neg =>
  have y : (s == s') = false := by simp [h2]
  rw [decide_eq_false h2, decide_eq_true rfl]
  go_enter Tryz.func15, Tryz.ntmps15
  go_wp2
  go_ret
  exact ⟨rfl, BB.out⟩
 subst h2
 rw [decide_eq_true rfl, decide_eq_true rfl]
 simp only [Bool.true_and]
 generalize decide (l = l') = r at t3
 go_enter Tryz.func15, Tryz.ntmps15
 go_wp2
 go_ret
 exact ⟨rfl, BB.out⟩
end Go.Proofs.YtlhdjdnflpilbaaGreatDoor.Att
