/- What is told of a way, as it lies in memory: nine cells. It speaks of no function of the program. -/
import Derived.Test.YtgeekckoepnccaaSegMem
import Derived.Test.YtgeekckoepnccaaOctMem
namespace Go.Proofs.Ytgeekckoepnccaa.Att
open Go.RowKit Mem Segm Oct

/-- Attributes. -/
structure At where
  has : Int
  origin : Int
  path : List Piece
  hop : Nat
  med : Nat
  pref : Nat
  aas : Nat
  aid : Nat
  comms : List Nat
def At.ok (a : At) : Prop := (Lit.int .i64 a.has).wf = true ∧ (Lit.int .i64 a.origin).wf = true ∧ a.hop < 4294967296 ∧ a.med < 4294967296 ∧ a.pref < 4294967296 ∧ a.aas < 4294967296 ∧ a.aid < 4294967296
def acells (a : At) (vp vc : Value) : List Value := [.int .i64 a.has, .int .i64 a.origin, vp, .int .u32 a.hop, .int .u32 a.med, .int .u32 a.pref, .int .u32 a.aas, .int .u32 a.aid, vc]
/-- None. -/
def zeroA : At := ⟨0, 0, [], 0, 0, 0, 0, 0, []⟩
theorem zeroA_ok : zeroA.ok := by unfold zeroA At.ok; decide
/-- Attributes as a value; what their slices hold can be read. -/
def Attrs (W : World) (v : Value) (a : At) : Prop := a.ok ∧ ∃ vp vc, v = .agg (acells a vp vc).toArray ∧ Segs W vp a.path ∧ U32s W vc a.comms
theorem Attrs.keep {W W' : World} {v : Value} {a : At} (h : Attrs W v a) (hb : Below W.heap.size W W') : Attrs W' v a := by
  obtain ⟨h0, vp, vc, h1, h2, h3⟩ := h
  exact ⟨h0, vp, vc, h1, h2.keep hb, h3.keep hb⟩
theorem attrs_zero (W : World) : Attrs W (.agg #[.int .i64 0, .int .i64 0, .slice none 0 0, .int .u32 0, .int .u32 0, .int .u32 0, .int .u32 0, .int .u32 0, .slice none 0 0]) zeroA :=
  ⟨zeroA_ok, .slice none 0 0, .slice none 0 0, rfl, ⟨[], Row.nil W 2, Nums32.nil W⟩, U32s.nil W⟩
/-- A box of nine cells. -/
structure Box9 (W : World) (B : Nat) (t : TypeId) (x0 x1 x2 x3 x4 x5 x6 x7 x8 : Value) : Prop where
  blk : W.heap[B]? = some (.cells #[x0, x1, x2, x3, x4, x5, x6, x7, x8] t (0, 0))
section
variable {W W' : World} {B : Nat} {t : TypeId} {x0 x1 x2 x3 x4 x5 x6 x7 x8 : Value}
theorem Box9.new (W : World) (t : TypeId) (x0 x1 x2 x3 x4 x5 x6 x7 x8 : Value) : Box9 (W.alloc (.cells #[x0, x1, x2, x3, x4, x5, x6, x7, x8] t)) W.heap.size t x0 x1 x2 x3 x4 x5 x6 x7 x8 := ⟨heap_alloc_new _ _⟩
theorem Box9.lt (h : Box9 W B t x0 x1 x2 x3 x4 x5 x6 x7 x8) : B < W.heap.size := (Array.getElem?_eq_some_iff.1 h.blk).1
theorem Box9.keep (h : Box9 W B t x0 x1 x2 x3 x4 x5 x6 x7 x8) (hb : Below W.heap.size W W') : Box9 W' B t x0 x1 x2 x3 x4 x5 x6 x7 x8 := ⟨(hb.block B h.lt).trans h.blk⟩
theorem Box9.cells (h : Box9 W B t x0 x1 x2 x3 x4 x5 x6 x7 x8) : W.cell? ⟨B, 0, none⟩ = some x0 ∧ W.cell? ⟨B, 1, none⟩ = some x1 ∧ W.cell? ⟨B, 2, none⟩ = some x2 ∧ W.cell? ⟨B, 3, none⟩ = some x3 ∧ W.cell? ⟨B, 4, none⟩ = some x4 ∧ W.cell? ⟨B, 5, none⟩ = some x5 ∧ W.cell? ⟨B, 6, none⟩ = some x6 ∧ W.cell? ⟨B, 7, none⟩ = some x7 ∧ W.cell? ⟨B, 8, none⟩ = some x8 := by
  have hb := h.blk
  simp [World.cell?, hb]
theorem Box9.free (h : Box9 W B t x0 x1 x2 x3 x4 x5 x6 x7 x8) (i : Nat) : W.frozen? ⟨B, i, none⟩ = false := Go.Joins.unfrozen_of_block h.blk i
end
/-- Is there one of this type? -/
def hasB (h : Int) (k : Int) : Bool := decide (0 ≤ k) && decide (k < 30) && (h / 2 ^ k.toNat % 2 == 1)
theorem hasB_low {h k : Int} (hk : k < 0) : hasB h k = false := by
  unfold hasB
  rw [decide_eq_false (by omega)]; rfl
theorem hasB_high {h k : Int} (hk : 30 ≤ k) : hasB h k = false := by
  unfold hasB
  rw [decide_eq_false (show ¬ k < 30 by omega)]; simp
theorem hasB_in {h : Int} {k : Nat} (hk : k < 30) : hasB h (k : Int) = (h / 2 ^ k % 2 == 1) := by
  unfold hasB
  rw [decide_eq_true (by omega), decide_eq_true (by omega), Int.toNat_natCast]; rfl
/-- A number's last bit. -/
theorem and_one (n : Int) : bits .and .i64 n 1 = n % 2 := by
  have hm : (BitVec.ofInt 64 1).toNat = 2 ^ 1 - 1 := by decide
  have hk : (BitVec.ofInt 64 n &&& BitVec.ofInt 64 1).toNat = (n % ((2 ^ 64 : Nat) : Int)).toNat % 2 ^ 1 := by
    rw [BitVec.toNat_and, hm, Nat.and_two_pow_sub_one_eq_mod, BitVec.toNat_ofInt]
  show IntKind.i64.wrap ((BitVec.ofInt 64 n &&& BitVec.ofInt 64 1).toNat : Nat) = n % 2
  rw [hk, IntKind.wrap_i64]
  omega
/-- The bits of the types that there are, up to a type. -/
def hasUpto (h : Int) : Nat → Nat
  | 0 => 0
  | k + 1 => hasUpto h k + if hasB h ((k + 1 : Nat) : Int) then 2 ^ (k + 1) else 0
theorem hasUpto_le (h : Int) : ∀ k, hasUpto h k < 2 ^ (k + 1)
  | 0 => by simp [hasUpto]
  | k + 1 => by
    have ih := hasUpto_le h k
    have e : 2 ^ (k + 1 + 1) = 2 ^ (k + 1) + 2 ^ (k + 1) := by rw [Nat.pow_succ]; omega
    unfold hasUpto
    rw [e]
    split <;> omega
end Go.Proofs.Ytgeekckoepnccaa.Att
