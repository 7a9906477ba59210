/- A reader as it stands in memory, or none; what New, Bad and Left tell. -/
import Derived.Test.YtgeekckoepnccaaOctMem
import Derived.BigQuiet
import Derived.BigRegion
import Derived.RegionTactic
import Derived.Lib.QuietBelow
import Derived.Deep.RegionHeld3
namespace Go.Proofs.Ytgeekckoepnccaa.Oct
open Go.RowKit Mem

theorem elem8 : ∃ i, IsElem Try.prog 25 5 1 1 i (.int .u8 0) := IsElem.mk_ Try.underlying25 (by kernel_rfl) rfl (by decide)
theorem text8 {w : World} {v : Value} {l : List Nat} (h : U8s w v l) : (convert 25 9 v).run Try.prog w = .ok (.string (txt l)) w :=
  h.text _ _ _ Try.underlying25 Try.underlying5 Try.underlying9
def fails (l : List Nat) (bad : Bool) (k : Int) : Bool := bad || decide (k < 0) || decide ((l.length : Int) < k)
def got (l : List Nat) (bad : Bool) (k : Int) : List Nat := if fails l bad k then [] else l.take k.toNat
def rest (l : List Nat) (bad : Bool) (k : Int) : List Nat := if fails l bad k then [] else l.drop k.toNat
/-- A reader stands in these blocks, and all that it reads lies below n; or it is none. -/
def R (W : World) (base n : Nat) (v : Value) (l : List Nat) (bad : Bool) (F : Nat → Prop) : Prop :=
  (v = .pointer none ∧ l = [] ∧ bad = true ∧ F = fun _ => False) ∨
  ∃ b s, v = .pointer (some ⟨b, 0, none⟩) ∧ base ≤ b ∧ b < n ∧ n ≤ W.heap.size ∧ W.heap[b]? = some (.cells #[s, .bool bad] 79) ∧ U8s W s l ∧ Lies n F s ∧ (bad = true → l = []) ∧ F = fun k => k = b
theorem R.keep {W W' : World} {base n : Nat} {v : Value} {l : List Nat} {bad : Bool} {F : Nat → Prop} (h : R W base n v l bad F) (hb : ∀ k, k < n → W'.heap[k]? = W.heap[k]?) (hs : W.heap.size ≤ W'.heap.size) : R W' base n v l bad F := by
  rcases h with h | ⟨b, s, h1, h2, h3, h4, h5, h6, h7, h8⟩
  · exact .inl h
  · exact .inr ⟨b, s, h1, h2, h3, Nat.le_trans h4 hs, (hb b h3).trans h5, h6.part (fun g hg => hb g (h7 g hg).1) hs, h7, h8⟩
theorem R.below {W W' : World} {base n : Nat} {v : Value} {l : List Nat} {bad : Bool} {F : Nat → Prop} (h : R W base n v l bad F) (hb : Below W.heap.size W W') : R W' base n v l bad F := by
  rcases h with h | ⟨b, s, h1, h2, h3, h4, h5⟩
  · exact .inl h
  · exact R.keep (.inr ⟨b, s, h1, h2, h3, h4, h5⟩) (fun k hk => hb.block k (by omega)) hb.size
/-- Other blocks have turned, from n on. -/
theorem R.far {W W' : World} {base n : Nat} {v : Value} {l : List Nat} {bad : Bool} {F G : Nat → Prop} (h : R W base n v l bad F) (ho : Only G W W') (hG : ∀ k, G k → n ≤ k) : R W' base n v l bad F := by
  rcases h with h | ⟨b, s, h1, h2, h3, h4, h5⟩
  · exact .inl h
  · exact R.keep (.inr ⟨b, s, h1, h2, h3, h4, h5⟩) (fun k hk => ho.block k (by omega) (fun hg => by have := hG k hg; omega)) ho.size
theorem R.none_ (W : World) (base n : Nat) : R W base n (.pointer none) [] true (fun _ => False) := .inl ⟨rfl, rfl, rfl, rfl⟩
theorem R.low {W : World} {base n : Nat} {v : Value} {l : List Nat} {bad : Bool} {F : Nat → Prop} (h : R W base n v l bad F) : ∀ k, F k → base ≤ k ∧ k < n := by
  rcases h with ⟨_, _, _, rfl⟩ | ⟨b, s, h1, h2, h3, h4, h5, h6, h7, h8, rfl⟩
  · exact fun k hk => False.elim hk
  · rintro k rfl
    exact ⟨h2, h3⟩
theorem cell0 {W : World} {b : Nat} {x y : Value} {t : TypeId} (h : W.heap[b]? = some (.cells #[x, y] t)) : W.cell? ⟨b, 0, none⟩ = some x ∧ W.cell? ⟨b, 1, none⟩ = some y := by
  simp [World.cell?, h]
theorem free0 {W : World} {b : Nat} {x y : Value} {t : TypeId} (h : W.heap[b]? = some (.cells #[x, y] t)) : W.frozen? ⟨b, 0, none⟩ = false ∧ W.frozen? ⟨b, 1, none⟩ = false := by
  simp [World.frozen?, h]
theorem bad_any (v : Value) (base n : Nat) (l : List Nat) (bad : Bool) (F : Nat → Prop) (w : World) (hR : R w base n v l bad F) : Calls Try.prog 44 #[v] w (Tells (.bool bad) w) := by
  have HB := Go.Lib.hid (Below.refl w.heap.size w)
  rcases hR with ⟨rfl, _, rfl, _⟩ | ⟨b, s, rfl, -, -, -, h5, -⟩
  · go_enter Try.func44, Try.ntmps44
    go_wp2
    go_ret
    exact ⟨rfl, HB.out⟩
  · obtain ⟨c0, c1⟩ := cell0 h5
    clear h5
    go_enter Try.func44, Try.ntmps44
    go_wp2
    go_ret
    exact ⟨rfl, HB.out⟩
end Go.Proofs.Ytgeekckoepnccaa.Oct
