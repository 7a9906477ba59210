/- How many addresses there are: the same number for lists with the same addresses. It speaks of no function of the program. -/
import Derived.Test.YtgjdpmpbldofpaaDoorWlkPart
namespace Go.Proofs.YtgjdpmpbldofpaaDoor.Wlk
open Mem Pfx PR

/-- How many numbers below n are in S. -/
def many (S : Nat → Bool) : Nat → Nat
  | 0 => 0
  | n + 1 => many S n + if S n then 1 else 0
theorem many_ext {S T : Nat → Bool} (h : ∀ x, S x = T x) : ∀ n, many S n = many T n
  | 0 => rfl
  | n + 1 => by unfold many; rw [many_ext h n, h n]
theorem many_or {S T : Nat → Bool} (h : ∀ x, S x = true → T x = false) : ∀ n, many (fun x => S x || T x) n = many S n + many T n
  | 0 => rfl
  | n + 1 => by
    unfold many
    rw [many_or h n]
    have := h n
    cases hs : S n <;> cases ht : T n
    · simp
    · simp; omega
    · simp; omega
    · rw [hs, ht] at this
      simp at this
theorem many_run (a e : Nat) : ∀ n, a ≤ e → many (fun x => decide (a ≤ x ∧ x < e)) n = min n e - min n a
  | 0, _ => by unfold many; omega
  | n + 1, h => by
    unfold many
    rw [many_run a e n h]
    by_cases h1 : a ≤ n ∧ n < e
    · simp only [decide_eq_true h1, if_true]
      omega
    · simp only [decide_eq_false h1]
      simp
      omega
theorem many_none : ∀ n, many (fun _ => false) n = 0
  | 0 => rfl
  | n + 1 => by unfold many; rw [many_none n]; rfl
def runsB (l : List (Nat × Nat)) (x : Nat) : Bool := l.any (fun r => decide (r.1 ≤ x ∧ x < r.2))
theorem many_runs : ∀ (l : List (Nat × Nat)) (n : Nat), l.Pairwise (fun r s => r.2 ≤ s.1) → (∀ r ∈ l, r.1 ≤ r.2 ∧ r.2 ≤ n) → many (runsB l) n = (l.map (fun r => r.2 - r.1)).sum
  | [], n, _, _ => many_none n
  | r :: l, n, hp, hb => by
    rw [List.pairwise_cons] at hp
    have hr := hb r (List.mem_cons_self ..)
    have e : many (runsB (r :: l)) n = many (fun x => (fun x => decide (r.1 ≤ x ∧ x < r.2)) x || runsB l x) n := many_ext (fun x => by unfold runsB; rw [List.any_cons]) n
    rw [e, many_or (S := fun x => decide (r.1 ≤ x ∧ x < r.2)) (T := runsB l) ?_ n, many_run r.1 r.2 n hr.1, many_runs l n hp.2 (fun s hs => hb s (List.mem_cons_of_mem _ hs)), List.map_cons, List.sum_cons]
    · omega
    · intro x hx
      have hx' := of_decide_eq_true hx
      unfold runsB
      rw [List.any_eq_false]
      intro s hs
      have := hp.1 s hs
      simp only [decide_eq_true_iff]
      omega
theorem runsB_iff {l : List (Nat × Nat)} {x : Nat} : runsB l x = true ↔ ∃ r ∈ l, r.1 ≤ x ∧ x < r.2 := by
  unfold runsB
  rw [List.any_eq_true]
  constructor
  · rintro ⟨r, hr, h⟩
    exact ⟨r, hr, of_decide_eq_true h⟩
  · rintro ⟨r, hr, h⟩
    exact ⟨r, hr, decide_eq_true h⟩
/-- As many as prefixes that are apart have. -/
def spanL (l : List Pf) : Nat := (l.map sz).sum
def sizeT (l : List Pt) : Nat := (l.map (fun p => p.B + 1 - p.A)).sum
def setP (l : List Pf) : Nat → Bool := runsB (l.map (fun p => (p.a, p.a + sz p)))
def setT (l : List Pt) : Nat → Bool := runsB (l.map (fun p => (p.A, p.B + 1)))
theorem setP_iff {l : List Pf} {x : Nat} : setP l x = true ↔ has l x := by
  unfold setP has
  rw [runsB_iff]
  constructor
  · rintro ⟨r, hr, h⟩
    obtain ⟨p, hp, rfl⟩ := List.mem_map.1 hr
    exact ⟨p, hp, h⟩
  · rintro ⟨p, hp, h⟩
    exact ⟨_, List.mem_map.2 ⟨p, hp, rfl⟩, h⟩
theorem setT_iff {l : List Pt} {x : Nat} : setT l x = true ↔ hasT l x := by
  unfold setT hasT
  rw [runsB_iff]
  constructor
  · rintro ⟨r, hr, h⟩
    obtain ⟨p, hp, rfl⟩ := List.mem_map.1 hr
    exact ⟨p, hp, h.1, by have := h.2; dsimp only at this; omega⟩
  · rintro ⟨p, hp, h⟩
    exact ⟨_, List.mem_map.2 ⟨p, hp, rfl⟩, h.1, by have := h.2; dsimp only; omega⟩
theorem many_P {l : List Pf} (h : Row1 l) : many (setP l) 4294967296 = spanL l := by
  unfold setP spanL
  rw [many_runs]
  · rw [List.map_map]
    congr 1
    apply List.map_congr_left
    intro p _
    simp
  · rw [List.pairwise_map]
    exact h.apart
  · intro r hr
    obtain ⟨p, hp, rfl⟩ := List.mem_map.1 hr
    have := (h.good p hp).top
    dsimp only
    omega
theorem many_T {l : List Pt} (h : Norm l) : many (setT l) 4294967296 = sizeT l := by
  unfold setT sizeT
  rw [many_runs]
  · rw [List.map_map]
    rfl
  · rw [List.pairwise_map]
    refine h.apart.imp ?_
    intro a b hab
    dsimp only
    omega
  · intro r hr
    obtain ⟨p, hp, rfl⟩ := List.mem_map.1 hr
    have := h.ins p hp
    unfold InT at this
    dsimp only
    omega
theorem bool_ext {a b : Bool} (h : a = true ↔ b = true) : a = b := by cases a <;> cases b <;> simp_all
theorem span_size {l : List Pf} {m : List Pt} (hl : Row1 l) (hm : Norm m) (h : ∀ x, has l x ↔ hasT m x) : spanL l = sizeT m := by
  rw [← many_P hl, ← many_T hm]
  exact many_ext (fun x => bool_ext (by rw [setP_iff, setT_iff]; exact h x)) _
/-- What is left and what is shared, together. -/
theorem span_parts {l k : List Pf} {m : List Pt} (hl : Row1 l) (hk : Row1 k) (hm : Norm m) (h1 : ∀ x, has l x → ¬ has k x) (h : ∀ x, hasT m x ↔ has l x ∨ has k x) : spanL l + spanL k = sizeT m := by
  rw [← many_P hl, ← many_P hk, ← many_T hm, ← many_or]
  · refine many_ext (fun x => bool_ext ?_) _
    rw [Bool.or_eq_true, setP_iff, setP_iff, setT_iff]
    exact (h x).symm
  · intro x hx
    cases hb : setP k x
    · rfl
    · exact absurd (setP_iff.1 hb) (h1 x (setP_iff.1 hx))
theorem sum_split (l : List Pf) (x : Pf) : spanL (l ++ [x]) = spanL l + sz x := by unfold spanL; simp
theorem spanL_le {l : List Pf} (h : Row1 l) : spanL l ≤ 4294967296 := by
  rw [← many_P h]
  have : ∀ n, many (setP l) n ≤ n := by
    intro n
    induction n with
    | zero => exact Nat.le_refl _
    | succ n ih => unfold many; split <;> omega
  exact this _
end Go.Proofs.YtgjdpmpbldofpaaDoor.Wlk
