/- Plain mathematics of two rising lists walked side by side: what is seen, and what is kept of it. It imports nothing of the program. -/
import Derived.Test.YtdgfnnjcpoklfaaDoorSetMath
namespace Go.Proofs.YtdgfnnjcpoklfaaDoor.Rise

/-- Which number comes next, and which of the lists have it. -/
def next : List Nat → List Nat → Option ((Nat × Bool × Bool) × List Nat × List Nat)
  | [], [] => none
  | x :: a, [] => some ((x, true, false), a, [])
  | [], y :: b => some ((y, false, true), [], b)
  | x :: a, y :: b => if x < y then some ((x, true, false), a, y :: b) else if y < x then some ((y, false, true), x :: a, b) else some ((x, true, true), a, b)
def seen : Nat → List Nat → List Nat → List (Nat × Bool × Bool)
  | 0, _, _ => []
  | k + 1, a, b => match next a b with
    | none => []
    | some (e, a', b') => e :: seen k a' b'
def events (a b : List Nat) : List (Nat × Bool × Bool) := seen (a.length + b.length) a b

theorem next_cases {a b a' b' : List Nat} {e : Nat × Bool × Bool} (h : next a b = some (e, a', b')) :
    (∃ x, e = (x, true, false) ∧ a = x :: a' ∧ b = b' ∧ ∀ y ∈ b.head?, x < y) ∨ (∃ y, e = (y, false, true) ∧ a = a' ∧ b = y :: b' ∧ ∀ x ∈ a.head?, y < x) ∨ (∃ x, e = (x, true, true) ∧ a = x :: a' ∧ b = x :: b') := by
  unfold next at h
  split at h
  · cases h
  · injection h with h; injection h with h0 h; injection h with h1 h2; subst h0 h1 h2
    exact .inl ⟨_, rfl, rfl, rfl, by simp⟩
  · injection h with h; injection h with h0 h; injection h with h1 h2; subst h0 h1 h2
    exact .inr (.inl ⟨_, rfl, rfl, rfl, by simp⟩)
  · split at h
    · injection h with h; injection h with h0 h; injection h with h1 h2; subst h0 h1 h2
      exact .inl ⟨_, rfl, rfl, rfl, by simpa⟩
    · split at h
      · injection h with h; injection h with h0 h; injection h with h1 h2; subst h0 h1 h2
        exact .inr (.inl ⟨_, rfl, rfl, rfl, by simpa⟩)
      · rename_i x a y b _ _
        obtain rfl : x = y := by omega
        injection h with h; injection h with h0 h; injection h with h1 h2; subst h0 h1 h2
        exact .inr (.inr ⟨_, rfl, rfl, rfl⟩)
theorem next_less {a b a' b' : List Nat} {e : Nat × Bool × Bool} (h : next a b = some (e, a', b')) : a'.length + b'.length < a.length + b.length := by
  rcases next_cases h with ⟨x, _, rfl, rfl, _⟩ | ⟨x, _, rfl, rfl, _⟩ | ⟨x, _, rfl, rfl⟩ <;> simp <;> omega
theorem seen_more : ∀ (k j : Nat) (a b : List Nat), a.length + b.length ≤ k → a.length + b.length ≤ j → seen k a b = seen j a b
  | 0, 0, _, _, _, _ => rfl
  | 0, j + 1, a, b, h, _ => by
    have ha : a = [] := List.eq_nil_of_length_eq_zero (by omega)
    have hb : b = [] := List.eq_nil_of_length_eq_zero (by omega)
    subst ha hb
    rfl
  | k + 1, 0, a, b, _, h => by
    have ha : a = [] := List.eq_nil_of_length_eq_zero (by omega)
    have hb : b = [] := List.eq_nil_of_length_eq_zero (by omega)
    subst ha hb
    rfl
  | k + 1, j + 1, a, b, h1, h2 => by
    simp only [seen]
    cases hn : next a b with
    | none => rfl
    | some x =>
      obtain ⟨e, a', b'⟩ := x
      have := next_less hn
      simp only
      rw [seen_more k j a' b' (by omega) (by omega)]
theorem events_nil : events [] [] = [] := rfl
theorem events_step {a b a' b' : List Nat} {e : Nat × Bool × Bool} (h : next a b = some (e, a', b')) : events a b = e :: events a' b' := by
  have hl := next_less h
  unfold events
  obtain ⟨k, hk⟩ : ∃ k, a.length + b.length = k + 1 := ⟨a.length + b.length - 1, by omega⟩
  rw [hk, seen, h]
  simp only
  rw [seen_more k (a'.length + b'.length) a' b' (by omega) (Nat.le_refl _)]

theorem head_lt {x : Nat} {l : List Nat} (h : rising l) (hx : ∀ y ∈ l.head?, x < y) : ∀ y ∈ l, x < y := by
  cases l with
  | nil => simp
  | cons z l =>
    have hz := hx z (by simp)
    intro y hy
    rcases List.mem_cons.1 hy with rfl | hy
    · exact hz
    · exact Nat.lt_trans hz ((rising_cons.1 h).1 y hy)
/-- All numbers of both are seen, in order, each with which list has it. -/
theorem events_spec (k : Nat) : ∀ (a b : List Nat), a.length + b.length ≤ k → rising a → rising b →
    (∀ e ∈ events a b, e.2.1 = decide (e.1 ∈ a) ∧ e.2.2 = decide (e.1 ∈ b) ∧ (e.1 ∈ a ∨ e.1 ∈ b)) ∧ (∀ n, n ∈ a ∨ n ∈ b → ∃ e ∈ events a b, e.1 = n) ∧ (events a b).Pairwise (fun e f => e.1 < f.1) := by
  induction k with
  | zero =>
    intro a b h _ _
    have ha : a = [] := List.eq_nil_of_length_eq_zero (by omega)
    have hb : b = [] := List.eq_nil_of_length_eq_zero (by omega)
    subst ha hb
    rw [events_nil]
    simp
  | succ k ih =>
    intro a b hl ra rb
    cases hn : next a b with
    | none =>
      cases a <;> cases b
      · rw [events_nil]; simp
      · cases hn
      · cases hn
      · exfalso
        unfold next at hn
        simp only at hn
        split at hn
        · cases hn
        · split at hn <;> cases hn
    | some x =>
      obtain ⟨e, a', b'⟩ := x
      have hless := next_less hn
      rw [events_step hn]
      rcases next_cases hn with ⟨x, rfl, rfl, rfl, hb⟩ | ⟨x, rfl, rfl, rfl, ha⟩ | ⟨x, rfl, rfl, rfl⟩
      · obtain ⟨ra1, ra2⟩ := rising_cons.1 ra
        have hxb := head_lt rb hb
        obtain ⟨i1, i2, i3⟩ := ih a' b (by omega) ra2 rb
        have hgt : ∀ e ∈ events a' b, x < e.1 := fun e he => ((i1 e he).2.2).elim (ra1 _) (hxb _)
        have hxnb : x ∉ b := fun h => Nat.lt_irrefl _ (hxb x h)
        refine ⟨fun e he => ?_, fun n hn => ?_, List.pairwise_cons.2 ⟨fun f hf => hgt f hf, i3⟩⟩
        · rcases List.mem_cons.1 he with rfl | he
          · simp [hxnb]
          · obtain ⟨j1, j2, j3⟩ := i1 e he
            have := hgt e he
            have hne : ¬ e.1 = x := by omega
            exact ⟨by rw [j1]; simp [hne], j2, j3.elim (fun h => .inl (List.mem_cons_of_mem _ h)) .inr⟩
        · by_cases hnx : n = x
          · exact ⟨_, List.mem_cons_self .., hnx.symm⟩
          · obtain ⟨e, he, h2⟩ := i2 n (hn.elim (fun h => (List.mem_cons.1 h).elim (fun h => absurd h hnx) .inl) .inr)
            exact ⟨e, List.mem_cons_of_mem _ he, h2⟩
      · obtain ⟨rb1, rb2⟩ := rising_cons.1 rb
        have hxa := head_lt ra ha
        obtain ⟨i1, i2, i3⟩ := ih a b' (by omega) ra rb2
        have hgt : ∀ e ∈ events a b', x < e.1 := fun e he => ((i1 e he).2.2).elim (hxa _) (rb1 _)
        have hxna : x ∉ a := fun h => Nat.lt_irrefl _ (hxa x h)
        refine ⟨fun e he => ?_, fun n hn => ?_, List.pairwise_cons.2 ⟨fun f hf => hgt f hf, i3⟩⟩
        · rcases List.mem_cons.1 he with rfl | he
          · simp [hxna]
          · obtain ⟨j1, j2, j3⟩ := i1 e he
            have := hgt e he
            have hne : ¬ e.1 = x := by omega
            exact ⟨j1, by rw [j2]; simp [hne], j3.elim .inl (fun h => .inr (List.mem_cons_of_mem _ h))⟩
        · by_cases hnx : n = x
          · exact ⟨_, List.mem_cons_self .., hnx.symm⟩
          · obtain ⟨e, he, h2⟩ := i2 n (hn.elim .inl (fun h => (List.mem_cons.1 h).elim (fun h => absurd h hnx) .inr))
            exact ⟨e, List.mem_cons_of_mem _ he, h2⟩
      · obtain ⟨ra1, ra2⟩ := rising_cons.1 ra
        obtain ⟨rb1, rb2⟩ := rising_cons.1 rb
        obtain ⟨i1, i2, i3⟩ := ih a' b' (by omega) ra2 rb2
        have hgt : ∀ e ∈ events a' b', x < e.1 := fun e he => ((i1 e he).2.2).elim (ra1 _) (rb1 _)
        refine ⟨fun e he => ?_, fun n hn => ?_, List.pairwise_cons.2 ⟨fun f hf => hgt f hf, i3⟩⟩
        · rcases List.mem_cons.1 he with rfl | he
          · simp
          · obtain ⟨j1, j2, j3⟩ := i1 e he
            have := hgt e he
            have hne : ¬ e.1 = x := by omega
            exact ⟨by rw [j1]; simp [hne], by rw [j2]; simp [hne], j3.elim (fun h => .inl (List.mem_cons_of_mem _ h)) (fun h => .inr (List.mem_cons_of_mem _ h))⟩
        · by_cases hnx : n = x
          · exact ⟨_, List.mem_cons_self .., hnx.symm⟩
          · obtain ⟨e, he, h2⟩ := i2 n (hn.elim (fun h => (List.mem_cons.1 h).elim (fun h => absurd h hnx) .inl) (fun h => (List.mem_cons.1 h).elim (fun h => absurd h hnx) .inr))
            exact ⟨e, List.mem_cons_of_mem _ he, h2⟩

/-- What is kept of two lists. -/
def kept (f : Bool → Bool → Bool) (a b : List Nat) : List Nat := ((events a b).filter fun e => f e.2.1 e.2.2).map (·.1)
theorem kept_nil (f : Bool → Bool → Bool) : kept f [] [] = [] := rfl
theorem kept_step {f : Bool → Bool → Bool} {a b a' b' : List Nat} {n : Nat} {x y : Bool} (h : next a b = some ((n, x, y), a', b')) (K : List Nat) : (if f x y then K ++ [n] else K) ++ kept f a' b' = K ++ kept f a b := by
  unfold kept
  rw [events_step h, List.filter_cons]
  simp only
  split <;> simp
theorem rising_kept (f : Bool → Bool → Bool) {a b : List Nat} (ha : rising a) (hb : rising b) : rising (kept f a b) := by
  obtain ⟨_, _, h⟩ := events_spec _ a b (Nat.le_refl _) ha hb
  unfold kept rising
  exact List.pairwise_map.2 (List.Pairwise.filter _ h)
theorem mem_kept (f : Bool → Bool → Bool) {a b : List Nat} (ha : rising a) (hb : rising b) (n : Nat) : n ∈ kept f a b ↔ (n ∈ a ∨ n ∈ b) ∧ f (decide (n ∈ a)) (decide (n ∈ b)) = true := by
  obtain ⟨h1, h2, _⟩ := events_spec _ a b (Nat.le_refl _) ha hb
  unfold kept
  rw [List.mem_map]
  constructor
  · rintro ⟨e, he, rfl⟩
    obtain ⟨he, hf⟩ := List.mem_filter.1 he
    obtain ⟨j1, j2, j3⟩ := h1 e he
    rw [j1, j2] at hf
    exact ⟨j3, hf⟩
  · rintro ⟨hm, hf⟩
    obtain ⟨e, he, rfl⟩ := h2 n hm
    obtain ⟨j1, j2, _⟩ := h1 e he
    exact ⟨e, List.mem_filter.2 ⟨he, by rw [j1, j2]; exact hf⟩, rfl⟩
/-- Whether the second has all of the first. -/
def allIn (a b : List Nat) : Bool := (events a b).all fun e => e.2.2 || !e.2.1
theorem allIn_nil : allIn [] [] = true := rfl
theorem allIn_step {a b a' b' : List Nat} {n : Nat} {x y : Bool} (h : next a b = some ((n, x, y), a', b')) : allIn a b = ((y || !x) && allIn a' b') := by
  unfold allIn
  rw [events_step h, List.all_cons]
theorem allIn_iff {a b : List Nat} (ha : rising a) (hb : rising b) : allIn a b = true ↔ ∀ n ∈ a, n ∈ b := by
  obtain ⟨h1, h2, _⟩ := events_spec _ a b (Nat.le_refl _) ha hb
  unfold allIn
  rw [List.all_eq_true]
  constructor
  · intro h n hn
    obtain ⟨e, he, rfl⟩ := h2 n (.inl hn)
    obtain ⟨j1, j2, _⟩ := h1 e he
    have := h e he
    rw [j1, j2] at this
    simpa [hn] using this
  · intro h e he
    obtain ⟨j1, j2, j3⟩ := h1 e he
    rw [j1, j2]
    by_cases hm : e.1 ∈ a
    · simp [h _ hm]
    · simp [hm]
theorem kept_len (f : Bool → Bool → Bool) (k : Nat) : ∀ (a b : List Nat), a.length + b.length ≤ k → (kept f a b).length ≤ a.length + b.length := by
  induction k with
  | zero =>
    intro a b h
    have ha : a = [] := List.eq_nil_of_length_eq_zero (by omega)
    have hb : b = [] := List.eq_nil_of_length_eq_zero (by omega)
    subst ha hb
    simp [kept, events, seen]
  | succ k ih =>
    intro a b hl
    cases hn : next a b with
    | none =>
      have : events a b = [] := by
        unfold events
        cases h : a.length + b.length with
        | zero => rfl
        | succ j => simp [seen, hn]
      unfold kept
      rw [this]; simp
    | some x =>
      obtain ⟨⟨n, x, y⟩, a', b'⟩ := x
      have hless := next_less hn
      have h1 := ih a' b' (by omega)
      have h2 := congrArg List.length (kept_step (f := f) hn [])
      simp only [List.nil_append, List.length_append] at h2
      split at h2 <;> simp at h2 <;> omega
end Go.Proofs.YtdgfnnjcpoklfaaDoor.Rise
