/- OctetReads: the code of a round in pieces, and what stands between its calls. -/
import Derived.Test.YtkomelckmhnpeaaOctState
import Derived.Test.YtkomelckmhnpeaaCodeKit
import Derived.Outline
namespace Go.Proofs.Ytkomelckmhnpeaa.Oct
open Go.RowKit Mem Ahead Kit

noncomputable def rdSw : Code := (Try.f3.body.bind (blkOf 2)).getD .skip
noncomputable def rdChk : Code := (Try.f3.body.bind (behind 2)).getD .skip
/-- Bytes that lie apart from these blocks. -/
def Aside (W : World) (F : Nat → Prop) (v : Value) (l : List Nat) : Prop := U8s W v l ∧ Lies W.heap.size F v
theorem Aside.below {W W' : World} {F : Nat → Prop} {v : Value} {l : List Nat} (h : Aside W F v l) (hb : Below W.heap.size W W') : Aside W' F v l :=
  ⟨h.1.keep hb, fun g e => ⟨Nat.lt_of_lt_of_le (h.2 g e).1 hb.size, (h.2 g e).2⟩⟩
theorem Aside.only {W W' : World} {F : Nat → Prop} {v : Value} {l : List Nat} (h : Aside W F v l) (ho : Only F W W') : Aside W' F v l :=
  ⟨h.1.part (fun g e => ho.block g (h.2 g e).1 (h.2 g e).2) ho.size, fun g e => ⟨Nat.lt_of_lt_of_le (h.2 g e).1 ho.size, (h.2 g e).2⟩⟩
/-- Between rounds: the reader, and what is left of the bytes. -/
structure Rd (w : World) (n : Nat) (P : Value) (F : Nat → Prop) (l : List Nat) (bd : Bool) (v : Value) (W : World) : Prop where
  rd : R W w.heap.size n P l bd F
  left : Aside W F v l
  below : Below w.heap.size w W
  nle : n ≤ W.heap.size
  big : l.length ≤ 200
theorem Rd.keep {w : World} {n : Nat} {P v : Value} {F : Nat → Prop} {l : List Nat} {bd : Bool} {W W' : World} (h : Rd w n P F l bd v W) (hb : Below W.heap.size W W') : Rd w n P F l bd v W' :=
  ⟨h.rd.below hb, h.left.below hb, h.below.trans (hb.mono h.below.size), Nat.le_trans h.nle hb.size, h.big⟩
/-- Blocks that lie behind all of it have turned. -/
theorem Aside.far {W W' : World} {F G : Nat → Prop} {v : Value} {l : List Nat} {m : Nat} (h : Aside W F v l) (ho : Only G W W') (hG : ∀ j, G j → m ≤ j) (hv : ∀ g, v.ownBlock = some g → g < m) : Aside W' F v l :=
  ⟨h.1.part (fun g e => ho.block g (h.2 g e).1 (fun hf => by have h1 := hv g e; have h2 := hG g hf; omega)) ho.size, fun g e => ⟨Nat.lt_of_lt_of_le (h.2 g e).1 ho.size, (h.2 g e).2⟩⟩
theorem Rd.far {w : World} {n m : Nat} {P v : Value} {F G : Nat → Prop} {l : List Nat} {bd : Bool} {W W' : World} (h : Rd w n P F l bd v W) (ho : Only G W W') (hG : ∀ j, G j → m ≤ j) (hn : n ≤ m) (hm : w.heap.size ≤ m) (hv : ∀ g, v.ownBlock = some g → g < m) : Rd w n P F l bd v W' :=
  ⟨h.rd.far ho (fun j hj => Nat.le_trans hn (hG j hj)), h.left.far ho hG hv, h.below.trans (ho.below (fun j hj => Nat.le_trans hm (hG j hj)) h.below.size), Nat.le_trans h.nle ho.size, h.big⟩
/-- Ahead of a call: what is to be read, and what will be left. -/
structure Sw (w : World) (n : Nat) (P : Value) (F : Nat → Prop) (l : List Nat) (bd : Bool) (k : Int) (vl vw : Value) (W : World) : Prop where
  rd : R W w.heap.size n P l bd F
  left : Aside W F vl (rest l bd k)
  want : Aside W F vw (got l bd k)
  below : Below w.heap.size w W
  nle : n ≤ W.heap.size
  big : l.length ≤ 200
  small : Small l
theorem rest_len {l : List Nat} {bd : Bool} {k : Int} : (rest l bd k).length ≤ l.length := by
  unfold rest
  split
  · simp
  · rw [List.length_drop]; omega
theorem got_len2 {l : List Nat} {bd : Bool} {k : Int} : (got l bd k).length ≤ l.length := by
  unfold got
  split
  · simp
  · exact List.length_take_le' _ _
theorem Sw.keep {w : World} {n : Nat} {P vl vw : Value} {F : Nat → Prop} {l : List Nat} {bd : Bool} {k : Int} {W W' : World} (h : Sw w n P F l bd k vl vw W) (hb : Below W.heap.size W W') : Sw w n P F l bd k vl vw W' :=
  ⟨h.rd.below hb, h.left.below hb, h.want.below hb, h.below.trans (hb.mono h.below.size), Nat.le_trans h.nle hb.size, h.big, h.small⟩
/-- The reader has read. -/
theorem Sw.done {w : World} {n : Nat} {P vl vw : Value} {F : Nat → Prop} {l : List Nat} {bd : Bool} {k : Int} {W W' : World} (h : Sw w n P F l bd k vl vw W) (hR : R W' w.heap.size n P (rest l bd k) (fails l bd k) F) (ho : Only F W W') : Rd w n P F (rest l bd k) (fails l bd k) vl W' :=
  ⟨hR, h.left.only ho, h.below.trans (ho.below (fun j hj => (h.rd.low j hj).1) h.below.size), Nat.le_trans h.nle ho.size, Nat.le_trans rest_len h.big⟩
end Go.Proofs.Ytkomelckmhnpeaa.Oct
