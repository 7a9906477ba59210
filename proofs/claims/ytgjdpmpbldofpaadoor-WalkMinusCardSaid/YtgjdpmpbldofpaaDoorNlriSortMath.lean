/- The reference's order, as mathematics: a prefix put into a list. -/
import Derived.Test.YtgjdpmpbldofpaaDoorPfxGive
namespace Go.Proofs.YtgjdpmpbldofpaaDoor.PR
open Go.RowKit Mem Pfx

/-- Comes p ahead of q? Are both the same? -/
def ahead (p q : Pf) : Bool := decide (cmpP p.a p.n q.a q.n < 0)
def sameB (p q : Pf) : Bool := decide (p.a = q.a) && decide (p.n = q.n)
theorem sameB_eq {p q : Pf} : sameB p q = true ↔ p = q := by
  obtain ⟨a, n⟩ := p
  obtain ⟨b, m⟩ := q
  simp [sameB]
def placeP (out : List Pf) (p : Pf) : Nat := (out.takeWhile (fun q => ahead q p)).length
def standsAt (out : List Pf) (i : Nat) (p : Pf) : Bool := match out[i]? with
  | some q => sameB q p
  | none => false
/-- A prefix put where it belongs, if it is good and isn't there. -/
def insP (out : List Pf) (p : Pf) : List Pf := if good p = true ∧ standsAt out (placeP out p) p = false then out.take (placeP out p) ++ p :: out.drop (placeP out p) else out
def sortP (l : List Pf) : List Pf := l.foldl insP []
theorem sortP_take {l : List Pf} {j : Nat} {p : Pf} (h : l[j]? = some p) : sortP (l.take (j + 1)) = insP (sortP (l.take j)) p := by
  unfold sortP
  rw [List.take_add_one, h, List.foldl_append]
  rfl
theorem insP_len (out : List Pf) (p : Pf) : (insP out p).length ≤ out.length + 1 := by
  unfold insP
  split
  · simp [List.length_take, List.length_drop]; omega
  · omega
theorem insP_ok {out : List Pf} {p : Pf} (h : Oks out) (hp : p.ok) : Oks (insP out p) := by
  unfold insP
  split
  · intro q hq
    rcases List.mem_append.1 hq with hq | hq
    · exact h q (List.mem_of_mem_take hq)
    · rcases List.mem_cons.1 hq with rfl | hq
      · exact hp
      · exact h q (List.mem_of_mem_drop hq)
  · exact h
theorem place_is : ∀ (out : List Pf) (i : Nat) {p : Pf}, (∀ q ∈ out.take i, ahead q p = true) → (i = out.length ∨ ∃ q, out[i]? = some q ∧ ahead q p = false) → placeP out p = i
  | [], i, p, _, h => by
    rcases h with h | ⟨q, hq, _⟩
    · simp [placeP, h]
    · simp at hq
  | a :: out, 0, p, _, h => by
    rcases h with h | ⟨q, hq, hf⟩
    · simp at h
    · simp at hq
      subst hq
      simp [placeP, List.takeWhile, hf]
  | a :: out, i + 1, p, h1, h2 => by
    have ha := h1 a (by simp)
    have ih := place_is out i (p := p) (fun q hq => h1 q (by simp [hq])) (by
      rcases h2 with h2 | ⟨q, hq, hf⟩
      · exact .inl (by simpa using h2)
      · exact .inr ⟨q, by simpa using hq, hf⟩)
    unfold placeP at ih ⊢
    simp [List.takeWhile, ha, ih]
theorem insP_new {out : List Pf} {p : Pf} {i : Nat} (hg : good p = true) (hi : placeP out p = i) (hs : standsAt out i p = false) : insP out p = out.take i ++ p :: out.drop i := by
  unfold insP
  rw [hi, if_pos ⟨hg, hs⟩]
theorem insP_bad {out : List Pf} {p : Pf} (hg : good p = false) : insP out p = out := by
  unfold insP
  rw [if_neg (by simp [hg])]
theorem insP_old {out : List Pf} {p : Pf} {i : Nat} (hi : placeP out p = i) (hs : standsAt out i p = true) : insP out p = out := by
  unfold insP
  rw [hi, if_neg (by simp [hs])]
theorem stands_none {out : List Pf} {p : Pf} {i : Nat} (h : out.length ≤ i) : standsAt out i p = false := by
  unfold standsAt
  rw [List.getElem?_eq_none h]
theorem stands_some {out : List Pf} {p q : Pf} {i : Nat} (h : out[i]? = some q) : standsAt out i p = sameB q p := by
  unfold standsAt
  rw [h]
end Go.Proofs.YtgjdpmpbldofpaaDoor.PR
