/- What bytes are prefixes, as mathematics. It speaks of no function of the program. -/
import Derived.Test.YtaemhgmekggliaaPfxRows
import Derived.Test.YtaemhgmekggliaaPfxMath
import Derived.Test.YtaemhgmekggliaaOctMem
namespace Go.Proofs.Ytaemhgmekggliaa.PR
open Go.RowKit Mem Pfx Oct

/-- How many bytes so many bits take. -/
def span (n : Nat) : Nat := (n + 7) / 8
theorem span_le {n : Nat} (h : n ≤ 32) : span n ≤ 4 := by unfold span; omega
/-- Four bytes: the first i of r, noughts behind. -/
def fill (r : List Nat) (i : Nat) : List Nat := r.take i ++ List.replicate (4 - i) 0
theorem fill_len {r : List Nat} {i : Nat} (h : i ≤ 4) (hr : i ≤ r.length) : (fill r i).length = 4 := by
  simp only [fill, List.length_append, List.length_take, List.length_replicate]; omega
theorem fill_small {r : List Nat} {i : Nat} (h : Small r) : Small (fill r i) := (h.take i).append fun x hx => by rw [(List.mem_replicate.1 hx).2]; decide
theorem fill_set {r : List Nat} {i x : Nat} (h : i < 4) (hx : r[i]? = some x) : (fill r i).set i x = fill r (i + 1) := by
  have hr := (List.getElem?_eq_some_iff.1 hx).1
  have e1 : List.replicate (4 - i) 0 = 0 :: List.replicate (4 - (i + 1)) 0 := by
    rw [show 4 - i = (4 - (i + 1)) + 1 by omega, List.replicate_succ]
  have hl : (r.take i).length = i := by rw [List.length_take]; omega
  unfold fill
  rw [e1, List.set_append_right _ _ (by omega), hl, Nat.sub_self, List.set_cons_zero, List.take_add_one, hx]
  simp
/-- The prefix that so many bits of these bytes are. -/
def elemOf (num : List Nat → Nat) (n : Nat) (r : List Nat) : Pf := ⟨cutN (num (fill r (span n))) n, n⟩
/-- The prefixes that bytes are; none: they are none's. -/
def dec (num : List Nat → Nat) : List Nat → Option (List Pf)
  | [] => some []
  | n :: r => if 32 < n ∨ r.length < span n then none else (dec num (r.drop (span n))).map (elemOf num n r :: ·)
termination_by l => l.length
decreasing_by simp [List.length_drop]; omega
theorem dec_nil (num : List Nat → Nat) : dec num [] = some [] := by rw [dec]
theorem dec_bad (num : List Nat → Nat) {n : Nat} {r : List Nat} (h : 32 < n ∨ r.length < span n) : dec num (n :: r) = none := by rw [dec, if_pos h]
theorem dec_ok (num : List Nat → Nat) {n : Nat} {r : List Nat} (h1 : n ≤ 32) (h2 : span n ≤ r.length) : dec num (n :: r) = (dec num (r.drop (span n))).map (elemOf num n r :: ·) := by rw [dec, if_neg (by omega)]
/-- What is read so far, and what is left. -/
def Left (num : List Nat → Nat) (b : List Nat) (out : List Pf) (rest : List Nat) : Prop := dec num b = (dec num rest).map (out ++ ·)
theorem left_start (num : List Nat → Nat) (b : List Nat) : Left num b [] b := by
  unfold Left
  cases dec num b <;> simp
theorem left_next {num : List Nat → Nat} {b r : List Nat} {out : List Pf} {n : Nat} (h : Left num b out (n :: r)) (h1 : n ≤ 32) (h2 : span n ≤ r.length) : Left num b (out ++ [elemOf num n r]) (r.drop (span n)) := by
  unfold Left at h ⊢
  rw [h, dec_ok num h1 h2]
  cases dec num (r.drop (span n)) <;> simp
theorem left_bad {num : List Nat → Nat} {b r : List Nat} {out : List Pf} {n : Nat} (h : Left num b out (n :: r)) (h1 : 32 < n ∨ r.length < span n) : dec num b = none := by
  unfold Left at h
  rw [h, dec_bad num h1]; rfl
theorem left_done {num : List Nat → Nat} {b : List Nat} {out : List Pf} (h : Left num b out []) : dec num b = some out := by
  unfold Left at h
  rw [h, dec_nil]; simp
end Go.Proofs.Ytaemhgmekggliaa.PR
