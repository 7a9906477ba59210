/- Plain mathematics: rows by their places. It speaks of no function of the program. -/
import Derived.Test.YtpcahgnibdampaaTriMath
namespace Go.Proofs.Ytpcahgnibdampaa.Tri
open PR Pfx

/-- Where a prefix stands: at i, and nowhere ahead. -/
def StandsAt (l : List Ent) (p : Pf) (i : Nat) : Prop := (∃ e, l[i]? = some e ∧ e.p = p) ∧ ∀ e ∈ l.take i, e.p ≠ p
theorem stands_get {l : List Ent} {p : Pf} {i : Nat} (h : StandsAt l p i) : ∃ e, l[i]? = some e ∧ e.p = p ∧ getE l p = some e.v := by
  obtain ⟨⟨e, h1, h2⟩, h3⟩ := h
  refine ⟨e, h1, h2, ?_⟩
  obtain ⟨hi, he⟩ := List.getElem?_eq_some_iff.1 h1
  unfold getE
  have hs : l = l.take i ++ e :: l.drop (i + 1) := by
    rw [← he, ← List.drop_eq_getElem_cons hi, List.take_append_drop]
  rw [hs, List.find?_append, List.find?_eq_none.2 (fun x hx => by simpa using h3 x hx), List.find?_cons, h2]
  simp
theorem none_get {l : List Ent} {p : Pf} (h : ∀ e ∈ l, e.p ≠ p) : getE l p = none := get_none.2 (fun hp => by
  obtain ⟨e, he, e2⟩ := List.mem_map.1 hp
  exact h e he e2)
theorem cut_at : ∀ (l : List Ent) (p : Pf) (i : Nat), StandsAt l p i → cutE l p = l.take i ++ l.drop (i + 1)
  | [], p, i, h => by obtain ⟨⟨e, h1, -⟩, -⟩ := h; simp at h1
  | d :: l, p, 0, h => by
    obtain ⟨⟨e, h1, h2⟩, -⟩ := h
    have h3 : d = e := by simpa using h1
    unfold cutE
    rw [if_pos (h3 ▸ h2)]
    rfl
  | d :: l, p, i + 1, h => by
    obtain ⟨⟨e, h1, h2⟩, h3⟩ := h
    have hd : d.p ≠ p := h3 d (by simp)
    have ih := cut_at l p i ⟨⟨e, by simpa using h1, h2⟩, fun x hx => h3 x (by rw [List.take_succ_cons]; exact List.mem_cons_of_mem _ hx)⟩
    unfold cutE
    rw [if_neg hd, ih]
    rfl
theorem cut_no : ∀ (l : List Ent) (p : Pf), (∀ e ∈ l, e.p ≠ p) → cutE l p = l
  | [], _, _ => rfl
  | d :: l, p, h => by
    unfold cutE
    rw [if_neg (h d List.mem_cons_self), cut_no l p (fun e he => h e (List.mem_cons_of_mem _ he))]
/-- Put where it stands: rows in order. -/
theorem put_at : ∀ (l : List Ent) (p : Pf) (v : Int) (i : Nat), Ord l → StandsAt l p i → putE l p v = l.set i ⟨p, v⟩
  | [], p, v, i, _, h => by obtain ⟨⟨e, h1, -⟩, -⟩ := h; simp at h1
  | d :: l, p, v, 0, _, h => by
    obtain ⟨⟨e, h1, h2⟩, -⟩ := h
    have h3 : d = e := by simpa using h1
    unfold putE
    rw [if_pos (h3 ▸ h2)]
    rfl
  | d :: l, p, v, i + 1, ho, h => by
    obtain ⟨⟨e, h1, h2⟩, h3⟩ := h
    unfold Ord at ho
    rw [List.pairwise_cons] at ho
    have hd : d.p ≠ p := h3 d (by simp)
    have he : l[i]? = some e := by simpa using h1
    have hlt : ltP d.p p := h2 ▸ ho.1 e (List.mem_of_getElem? he)
    have ih := put_at l p v i ho.2 ⟨⟨e, he, h2⟩, fun x hx => h3 x (by rw [List.take_succ_cons]; exact List.mem_cons_of_mem _ hx)⟩
    unfold putE
    rw [if_neg hd, if_pos hlt, ih]
    rfl
/-- Put at its place: the first one that does not come ahead. -/
theorem put_in : ∀ (l : List Ent) (p : Pf) (v : Int) (i : Nat), (∀ e ∈ l, e.p ≠ p) → i ≤ l.length → (∀ e ∈ l.take i, ltP e.p p) → (∀ e, l[i]? = some e → ¬ ltP e.p p) → putE l p v = l.take i ++ ⟨p, v⟩ :: l.drop i
  | [], p, v, i, _, hi, _, _ => by
    obtain rfl : i = 0 := by simpa using hi
    rfl
  | d :: l, p, v, 0, hn, _, _, h => by
    unfold putE
    rw [if_neg (hn d List.mem_cons_self), if_neg (h d rfl)]
    rfl
  | d :: l, p, v, i + 1, hn, hi, h1, h2 => by
    have ih := put_in l p v i (fun e he => hn e (List.mem_cons_of_mem _ he)) (by simpa using hi) (fun e he => h1 e (by rw [List.take_succ_cons]; exact List.mem_cons_of_mem _ he)) (fun e he => h2 e (by simpa using he))
    unfold putE
    rw [if_neg (hn d List.mem_cons_self), if_pos (h1 d (by simp)), ih]
    rfl
/-- The longest one, step by step. -/
theorem long_take {a : Nat} {l : List Ent} {i : Nat} {e : Ent} (h : l[i]? = some e) : longE a none (l.take (i + 1)) = (if covP e.p ⟨a, 32⟩ && shortB (longE a none (l.take i)) e.p then some e else longE a none (l.take i)) := by
  have hap : ∀ (l m : List Ent) (b : Option Ent), longE a b (l ++ m) = longE a (longE a b l) m := fun l m b => by
    induction l generalizing b with
    | nil => rfl
    | cons d l ih => exact ih _
  rw [List.take_add_one, h, Option.toList_some, hap]
  rfl
end Go.Proofs.Ytpcahgnibdampaa.Tri
