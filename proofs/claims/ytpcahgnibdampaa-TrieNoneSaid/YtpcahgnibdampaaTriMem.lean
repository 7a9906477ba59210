/- Words for memory: a tree in blocks of its own, and rows beside it. It speaks of no function of the program. -/
import Derived.Test.YtpcahgnibdampaaTriAsk
import Derived.Test.YtpcahgnibdampaaTriRows
import Derived.Test.YtpcahgnibdampaaOctMem
namespace Go.Proofs.Ytpcahgnibdampaa.Tri
open Go.RowKit Mem PR Pfx Oct

/-- The blocks are the old ones, or new. -/
def Grow (F F' : Nat → Prop) (W : World) : Prop := ∀ k, F' k → F k ∨ W.heap.size ≤ k
theorem Grow.trans {F G H : Nat → Prop} {a b : World} (h : Grow F G a) (k : Grow G H b) (hs : a.heap.size ≤ b.heap.size) : Grow F H a := fun i hi =>
  (k i hi).elim (fun hg => h i hg) (fun hn => .inr (Nat.le_trans hs hn))
theorem row_part {w w' : World} {m n : Nat} {v : Value} {cs : List Value} (h : Row w m v n cs) (hv : ∀ g, v.ownBlock = some g → w'.heap[g]? = w.heap[g]?) (hs : w.heap.size ≤ w'.heap.size) : Row w' m v n cs := by
  obtain ⟨hl, A, c, rfl, hn, hc, hr⟩ := h
  refine ⟨hl, A, c, rfl, hn, hc, fun h0 => ?_⟩
  obtain ⟨b, off, hA, hlt, hcell⟩ := hr h0
  refine ⟨b, off, hA, Nat.lt_of_lt_of_le hlt hs, fun i x hx => ?_⟩
  subst hA
  have h1 := hv b rfl
  have h2 := hcell i x hx
  unfold World.cell? at h2 ⊢
  simp only [h1]
  exact h2
/-- Rows that lie apart from these blocks are kept. -/
theorem Rws.only {w w' : World} {v : Value} {l : List Ent} {F : Nat → Prop} (h : Rws w v l) (hv : Lies w.heap.size F v) (ho : Only F w w') : Rws w' v l :=
  ⟨row_part h.1 (fun g hg => ho.block g (hv g hg).1 (hv g hg).2) ho.size, h.2⟩
theorem Lies.grow {w w' : World} {v : Value} {F G : Nat → Prop} (h : Lies w.heap.size F v) (hg : Grow F G w) (hs : w.heap.size ≤ w'.heap.size) : Lies w'.heap.size G v := fun g e =>
  ⟨Nat.lt_of_lt_of_le (h g e).1 hs, fun hG => (hg g hG).elim (h g e).2 (fun hn => by have := (h g e).1; omega)⟩
theorem Lies.size {n m : Nat} {v : Value} {F : Nat → Prop} (h : Lies n F v) (hs : n ≤ m) : Lies m F v := fun g e => ⟨Nat.lt_of_lt_of_le (h g e).1 hs, (h g e).2⟩
/-- New rows lie apart from old blocks. -/
theorem lies_new {w w' : World} {v : Value} {F : Nat → Prop} (hF : ∀ k, F k → k < w.heap.size) (h : ∀ g, v.ownBlock = some g → w.heap.size ≤ g ∧ g < w'.heap.size) : Lies w'.heap.size F v := fun g e =>
  ⟨(h g e).2, fun hf => by have := hF g hf; have := (h g e).1; omega⟩
/-- An act: put, cut, cut one of those that are there. -/
structure Ac where
  k : Int
  v : Int
  p : Pf
def Ac.ok (a : Ac) : Prop := (Lit.int .i64 a.k).wf = true ∧ (Lit.int .i64 a.v).wf = true ∧ a.p.ok
def acell (a : Ac) : List Value := [.int .i64 a.k, .int .i64 a.v, .int .u32 a.p.a, .int .i64 a.p.n]
def acV (a : Ac) : Value := .agg #[.int .i64 a.k, .int .i64 a.v, .int .u32 a.p.a, .int .i64 a.p.n]
/-- Which prefix it is done to. -/
def actP (l : List Ent) (a : Ac) : Pf := if a.k = 2 ∧ 0 < l.length ∧ 0 ≤ a.v then ((l[(a.v % (l.length : Int)).toNat]?).map (·.p)).getD a.p else a.p
/-- Rows behind an act. -/
def doE (l : List Ent) (a : Ac) : List Ent := if a.k = 1 ∨ a.k = 2 then cutE l (actP l a) else if goodP (actP l a) then putE l (actP l a) a.v else l
theorem actP_ok {l : List Ent} {a : Ac} (hl : Eoks l) (ha : a.ok) : (actP l a).ok := by
  unfold actP
  split
  · cases h : l[(a.v % (l.length : Int)).toNat]? with
    | none => exact ha.2.2
    | some e => exact (hl e (List.mem_of_getElem? h)).1
  · exact ha.2.2
theorem doE_ok {l : List Ent} {a : Ac} (hl : Eoks l) (ha : a.ok) : Eoks (doE l a) := by
  unfold doE
  split
  · exact eoks_cut l _ hl
  · split
    · exact eoks_put l _ _ hl ⟨actP_ok hl ha, ha.2.1⟩
    · exact hl
theorem put_len : ∀ (l : List Ent) (p : Pf) (x : Int), (putE l p x).length ≤ l.length + 1
  | [], _, _ => by simp [putE]
  | e :: l, p, x => by
    have := put_len l p x
    unfold putE
    split
    · simp
    · split
      · simpa using this
      · simp
theorem doE_len (l : List Ent) (a : Ac) : (doE l a).length ≤ l.length + 1 := by
  unfold doE
  split
  · exact Nat.le_succ_of_le (cut_sub l _).length_le
  · split
    · exact put_len l _ _
    · exact Nat.le_succ _
end Go.Proofs.Ytpcahgnibdampaa.Tri
