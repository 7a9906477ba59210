/- Plain mathematics of sets as rising lists: a rising list is known by its members; with a number, of a list, picked. It imports nothing of the program. -/
import Derived.Laws.BitsAllLaws
namespace Go.Proofs.Ytgeekckoepnccaa.Rise

/-- Strictly rising. -/
def rising (l : List Nat) : Prop := l.Pairwise (· < ·)
instance decRising (l : List Nat) : Decidable (rising l) := by unfold rising; infer_instance
theorem rising_nil : rising [] := List.Pairwise.nil
theorem rising_cons {x : Nat} {l : List Nat} : rising (x :: l) ↔ (∀ y ∈ l, x < y) ∧ rising l := List.pairwise_cons

/-- Two rising lists with the same members are one list. -/
theorem rising_ext : ∀ {a b : List Nat}, rising a → rising b → (∀ x, x ∈ a ↔ x ∈ b) → a = b
  | [], [], _, _, _ => rfl
  | [], y :: b, _, _, h => absurd ((h y).2 (List.mem_cons_self ..)) (by simp)
  | x :: a, [], _, _, h => absurd ((h x).1 (List.mem_cons_self ..)) (by simp)
  | x :: a, y :: b, ha, hb, h => by
    obtain ⟨ha1, ha2⟩ := rising_cons.1 ha
    obtain ⟨hb1, hb2⟩ := rising_cons.1 hb
    have e : x = y := by
      rcases List.mem_cons.1 ((h x).1 (List.mem_cons_self ..)) with e | m
      · exact e
      · rcases List.mem_cons.1 ((h y).2 (List.mem_cons_self ..)) with e | m2
        · exact e.symm
        · have := hb1 x m; have := ha1 y m2; omega
    subst e
    congr 1
    refine rising_ext ha2 hb2 fun z => ?_
    constructor
    · intro hz
      rcases List.mem_cons.1 ((h z).1 (List.mem_cons_of_mem _ hz)) with e | m
      · have := ha1 z hz; omega
      · exact m
    · intro hz
      rcases List.mem_cons.1 ((h z).2 (List.mem_cons_of_mem _ hz)) with e | m
      · have := hb1 z hz; omega
      · exact m

/-- A set with a number. -/
def put (l : List Nat) (n : Nat) : List Nat := if n ∈ l then l else l.takeWhile (fun x => decide (x < n)) ++ n :: l.dropWhile (fun x => decide (x < n))
theorem mem_put (l : List Nat) (n x : Nat) : x ∈ put l n ↔ x = n ∨ x ∈ l := by
  unfold put
  split
  · rename_i h
    exact ⟨.inr, fun h2 => h2.elim (fun e => e ▸ h) id⟩
  · have e := List.takeWhile_append_dropWhile (p := fun x => decide (x < n)) (l := l)
    have hm : x ∈ l ↔ x ∈ l.takeWhile (fun x => decide (x < n)) ∨ x ∈ l.dropWhile (fun x => decide (x < n)) := by rw [← List.mem_append, e]
    rw [List.mem_append, List.mem_cons, hm]
    constructor
    · rintro (h | h | h)
      · exact .inr (.inl h)
      · exact .inl h
      · exact .inr (.inr h)
    · rintro (h | h | h)
      · exact .inr (.inl h)
      · exact .inl h
      · exact .inr (.inr h)
theorem rising_put : ∀ {l : List Nat} (n : Nat), rising l → rising (put l n)
  | [], n, _ => by simp [put, rising]
  | x :: l, n, h => by
    obtain ⟨h1, h2⟩ := rising_cons.1 h
    by_cases hm : n ∈ x :: l
    · unfold put; rw [if_pos hm]; exact h
    · have hml : n ∉ l := fun m => hm (List.mem_cons_of_mem _ m)
      have hx : x ≠ n := fun e => hm (e ▸ List.mem_cons_self ..)
      unfold put
      rw [if_neg hm]
      by_cases hlt : x < n
      · have ih := rising_put n h2
        unfold put at ih
        rw [if_neg hml] at ih
        simp only [List.takeWhile, List.dropWhile, hlt, decide_true, List.cons_append]
        refine rising_cons.2 ⟨fun y hy => ?_, ih⟩
        have hy2 : y ∈ put l n := by unfold put; rw [if_neg hml]; exact hy
        rcases (mem_put l n y).1 hy2 with e | m
        · omega
        · exact h1 y m
      · simp only [List.takeWhile, List.dropWhile, hlt, decide_false, List.nil_append]
        refine rising_cons.2 ⟨fun y hy => ?_, h⟩
        rcases List.mem_cons.1 hy with e | m
        · omega
        · have := h1 y m; omega

/-- The numbers of a list, each once, rising. -/
def setOf (l : List Nat) : List Nat := l.foldl put []
theorem setOf_snoc (l : List Nat) (n : Nat) : setOf (l ++ [n]) = put (setOf l) n := by unfold setOf; rw [List.foldl_append]; rfl
theorem setOf_both (l : List Nat) : rising (setOf l) ∧ ∀ x, x ∈ setOf l ↔ x ∈ l := by
  induction hn : l.length generalizing l with
  | zero => rw [List.length_eq_zero_iff.1 hn]; exact ⟨rising_nil, fun x => Iff.rfl⟩
  | succ n ih =>
    rcases List.eq_nil_or_concat l with rfl | ⟨m, c, rfl⟩
    · simp at hn
    · rw [List.concat_eq_append] at *
      obtain ⟨h1, h2⟩ := ih m (by simpa using hn)
      rw [setOf_snoc]
      refine ⟨rising_put c h1, fun x => ?_⟩
      rw [mem_put, h2, List.mem_append, List.mem_singleton]
      exact ⟨fun h => h.elim .inr .inl, fun h => h.elim .inr .inl⟩
theorem rising_setOf (l : List Nat) : rising (setOf l) := (setOf_both l).1
theorem mem_setOf (l : List Nat) (x : Nat) : x ∈ setOf l ↔ x ∈ l := (setOf_both l).2 x
theorem setOf_iff (l : List Nat) : setOf l = l ↔ rising l :=
  ⟨fun h => h ▸ rising_setOf l, fun h => rising_ext (rising_setOf l) h (mem_setOf l)⟩

/-- The numbers of a list that another one has, or has not. -/
def pick (a b : List Nat) (is : Bool) : List Nat := a.filter fun x => decide (x ∈ b) == is
theorem rising_pick {a : List Nat} (b : List Nat) (is : Bool) (h : rising a) : rising (pick a b is) := List.Pairwise.filter _ h
theorem mem_pick (a b : List Nat) (is : Bool) (x : Nat) : x ∈ pick a b is ↔ x ∈ a ∧ decide (x ∈ b) = is := by
  unfold pick; rw [List.mem_filter]; simp

end Go.Proofs.Ytgeekckoepnccaa.Rise
