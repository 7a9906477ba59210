/- What is read by a reader's own calls, as plain data; bytes that do not lie in a box. -/
import Derived.Test.YtgeekckoepnccaaOctNum
import Derived.Test.YtgeekckoepnccaaBoxes
namespace Go.Proofs.Ytgeekckoepnccaa.Att
open Go.RowKit Mem Oct

theorem rest_small {l : List Nat} {bad : Bool} {k : Int} (h : Small l) : Small (rest l bad k) := by
  unfold rest
  split
  · exact small_nil
  · exact h.drop _
/-- Bytes do not lie in a block that holds none. -/
theorem u8_apart {W W' : World} {v : Value} {l : List Nat} {B : Nat} (h : U8s W v l) (hB : ∀ i n, W.cell? ⟨B, i, none⟩ ≠ some (.int .u8 n)) (hk : ∀ k, k ≠ B → W'.heap[k]? = W.heap[k]?) (hs : W.heap.size ≤ W'.heap.size) : U8s W' v l := by
  obtain ⟨⟨hl, A, c, rfl, hm, hc, hr⟩, hsm⟩ := h
  refine ⟨⟨hl, A, c, rfl, hm, hc, fun h0 => ?_⟩, hsm⟩
  obtain ⟨b, off, rfl, hlt, hcell⟩ := hr h0
  obtain ⟨x, hx⟩ : ∃ x, l[0]? = some x := ⟨_, List.getElem?_eq_getElem h0⟩
  have hne : b ≠ B := fun e => by
    subst e
    have h5 := hcell 0 (.int .u8 x) (by unfold cells8; rw [List.getElem?_map, hx]; rfl)
    exact hB _ _ h5
  refine ⟨b, off, rfl, Nat.lt_of_lt_of_le hlt hs, fun i y hy => ?_⟩
  have h5 := hcell i y hy
  have h6 := hk b hne
  unfold World.cell? at h5 ⊢
  simp only [h6]
  exact h5
def No8 (x : Value) : Prop := ∀ n, x ≠ .int .u8 n
theorem no8_i (n : Int) : No8 (.int .i64 n) := fun m e => by injection e with e; cases e
theorem no8_u (n : Int) : No8 (.int .u32 n) := fun m e => by injection e with e; cases e
theorem no8_s (A : Option Addr) (n c : Nat) : No8 (.slice A n c) := fun m e => by cases e
theorem no8_b (b : Bool) : No8 (.bool b) := fun m e => by cases e
theorem no8_cells {W : World} {B : Nat} {cs : Array Value} {t : TypeId} (h : W.heap[B]? = some (.cells cs t (0, 0))) (hc : ∀ x ∈ cs, No8 x) (i : Nat) (n : Int) : W.cell? ⟨B, i, none⟩ ≠ some (.int .u8 n) := fun e => by
  simp only [World.cell?, h] at e
  have h2 : cs[i]? = some (.int .u8 n) := by simpa using e
  exact hc _ (Array.mem_of_getElem? h2) n rfl
theorem Box3.no8 {W : World} {B : Nat} {t : TypeId} {x y z : Value} (h : Box3 W B t x y z) (hx : No8 x) (hy : No8 y) (hz : No8 z) (i : Nat) (n : Int) : W.cell? ⟨B, i, none⟩ ≠ some (.int .u8 n) :=
  no8_cells h.blk (fun u hu => by
    have : u = x ∨ u = y ∨ u = z := by simpa using hu
    rcases this with rfl | rfl | rfl <;> assumption) i n
/-- What is read, by the reader's own calls. -/
structure Rd where
  l : List Nat
  b : Bool
def Rd.go (x : Rd) (k : Int) : Rd := ⟨rest x.l x.b k, fails x.l x.b k⟩
def Rd.num (x : Rd) (k : Int) : Nat := val (got x.l x.b k)
theorem Rd.small {x : Rd} (h : Small x.l) (k : Int) : Small (x.go k).l := rest_small h
theorem num_lt {x : Rd} (h : Small x.l) (k : Nat) : x.num (k : Nat) < 256 ^ k := by
  have h1 := val_lt (got x.l x.b (k : Int)).length (got_small (bad := x.b) (k := (k : Int)) h)
  rw [List.take_length] at h1
  exact Nat.lt_of_lt_of_le h1 (Nat.pow_le_pow_right (by omega) got_len)
theorem Box4.no8 {W : World} {B : Nat} {t : TypeId} {x y z u : Value} (h : Box4 W B t x y z u) (hx : No8 x) (hy : No8 y) (hz : No8 z) (hu : No8 u) (i : Nat) (n : Int) : W.cell? ⟨B, i, none⟩ ≠ some (.int .u8 n) :=
  no8_cells h.blk (fun s hs => by
    have : s = x ∨ s = y ∨ s = z ∨ s = u := by simpa using hs
    rcases this with rfl | rfl | rfl | rfl <;> assumption) i n
theorem head_go (a : Nat) (l : List Nat) : (Rd.mk (a :: l) false).go 1 = ⟨l, false⟩ ∧ (Rd.mk (a :: l) false).num 1 = a := by
  have h : fails (a :: l) false 1 = false := by
    simp only [fails, Bool.false_or, Bool.or_eq_false_iff, decide_eq_false_iff_not, List.length_cons]
    omega
  constructor
  · unfold Rd.go rest; dsimp only; rw [h, if_neg (by decide)]; rfl
  · unfold Rd.num got; dsimp only; rw [h, if_neg (by decide)]; show 0 * 256 + a = a; omega
theorem two_go (a b : Nat) (l : List Nat) : (Rd.mk (a :: b :: l) false).go 2 = ⟨l, false⟩ ∧ (Rd.mk (a :: b :: l) false).num 2 = a * 256 + b := by
  have h : fails (a :: b :: l) false 2 = false := by
    simp only [fails, Bool.false_or, Bool.or_eq_false_iff, decide_eq_false_iff_not, List.length_cons]
    omega
  constructor
  · unfold Rd.go rest; dsimp only; rw [h, if_neg (by decide)]; rfl
  · unfold Rd.num got; dsimp only; rw [h, if_neg (by decide)]; show (0 * 256 + a) * 256 + b = _; omega
theorem go_short {l : List Nat} {k : Int} (h : (l.length : Int) < k) : ((Rd.mk l false).go k).b = true ∧ ((Rd.mk l false).go k).l = [] := by
  have hf : fails l false k = true := by simp [fails, h]
  exact ⟨hf, by show rest l false k = []; simp [rest, hf]⟩
theorem go_bad {x : Rd} (h : x.b = true) (k : Int) : (x.go k).b = true := by
  show fails x.l x.b k = true
  rw [h]; simp [fails]
theorem go_nil (k : Nat) (hk : 0 < k) : ((Rd.mk [] false).go k).b = true := (go_short (by simp; omega)).1
theorem fit_go {l : List Nat} {n : Nat} (h : n ≤ l.length) : (Rd.mk l false).go (n : Nat) = ⟨l.drop n, false⟩ ∧ got l false (n : Nat) = l.take n := by
  have hf : fails l false (n : Nat) = false := by
    simp only [fails, Bool.false_or, Bool.or_eq_false_iff, decide_eq_false_iff_not]
    omega
  constructor
  · unfold Rd.go rest; dsimp only; rw [hf, if_neg (by decide)]; rfl
  · unfold got; rw [hf, if_neg (by decide)]; rfl
end Go.Proofs.Ytgeekckoepnccaa.Att
