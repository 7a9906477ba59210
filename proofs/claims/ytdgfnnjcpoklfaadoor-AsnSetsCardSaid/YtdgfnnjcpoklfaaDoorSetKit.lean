/- Sets of numbers: the words that the laws' walks share. -/
import Derived.Test.YtdgfnnjcpoklfaaDoorSetOps
import Derived.Test.YtdgfnnjcpoklfaaDoorAsnLives
namespace Go.Proofs.YtdgfnnjcpoklfaaDoor.Nums
open Go.RowKit Mem Rise

theorem few_all (v : Value) (l : List Nat) (k : Nat) (w : World) (hv : U32s w v l) (hk : k ≤ 1000) (hl : l.length ≤ k) :
    Calls Tryd.prog 8 #[v, .int .i64 k] w (Gives32 23 l w) := by
  have := few_any v l k w hv hk
  rwa [List.take_of_length_le hl] at this
theorem same_true (va vb : Value) (a b : List Nat) (w : World) (ha : U32s w va a) (hb : U32s w vb b) (h : a = b) :
    Calls Tryd.prog 11 #[va, vb] w (Tells (.bool true) w) := by
  have := refSame_any va vb a b w ha hb
  rwa [decide_eq_true h] at this
theorem bound_setOf {l : List Nat} (h : ∀ n ∈ l, n < 4294967296) : ∀ n ∈ setOf l, n < 4294967296 := fun n hn => h n ((mem_setOf l n).1 hn)
theorem bound_kept {f : Bool → Bool → Bool} {a b : List Nat} (ra : rising a) (rb : rising b) (ha : ∀ n ∈ a, n < 4294967296) (hb : ∀ n ∈ b, n < 4294967296) : ∀ n ∈ kept f a b, n < 4294967296 := fun n hn => ((mem_kept f ra rb n).1 hn).1.elim (ha n) (hb n)
theorem bound_pick {a b : List Nat} {is : Bool} (ha : ∀ n ∈ a, n < 4294967296) : ∀ n ∈ pick a b is, n < 4294967296 := fun n hn => ha n ((mem_pick a b is n).1 hn).1
theorem len_pick (a b : List Nat) (is : Bool) : (pick a b is).length ≤ a.length := List.length_filter_le _ _

theorem two_or {a b : List Nat} (ra : rising a) (rb : rising b) : kept (fun x y => x || y) a b = setOf (a ++ b) :=
  rising_ext (rising_kept _ ra rb) (rising_setOf _) fun n => by rw [mem_kept _ ra rb, mem_setOf, List.mem_append]; simp
theorem two_minus {a b : List Nat} (ra : rising a) (rb : rising b) : kept (fun x y => x && !y) a b = pick a b false :=
  rising_ext (rising_kept _ ra rb) (rising_pick _ _ ra) fun n => by
    rw [mem_kept _ ra rb, mem_pick]
    by_cases h1 : n ∈ a <;> by_cases h2 : n ∈ b <;> simp [h1, h2]
theorem two_both {a b : List Nat} (ra : rising a) (rb : rising b) : kept (fun x y => x && y) a b = pick a b true :=
  rising_ext (rising_kept _ ra rb) (rising_pick _ _ ra) fun n => by
    rw [mem_kept _ ra rb, mem_pick]
    by_cases h1 : n ∈ a <;> by_cases h2 : n ∈ b <;> simp [h1, h2]
theorem two_back {a b : List Nat} (ra : rising a) : kept (fun x y => x || y) (pick a b false) (pick a b true) = a := by
  have r1 := rising_pick b false ra
  have r2 := rising_pick b true ra
  refine rising_ext (rising_kept _ r1 r2) ra fun n => ?_
  rw [mem_kept _ r1 r2]
  have e1 := mem_pick a b false n
  have e2 := mem_pick a b true n
  by_cases h1 : n ∈ a <;> by_cases h2 : n ∈ b <;> simp [e1, e2, h1, h2]
theorem two_within {a b : List Nat} (ra : rising a) (rb : rising b) : (((pick a b false).length : Int) == 0) = allIn a b := by
  have h := allIn_iff ra rb
  cases hr : allIn a b
  · have : ¬ ∀ n ∈ a, n ∈ b := fun h2 => by rw [h.2 h2] at hr; cases hr
    have hne : pick a b false ≠ [] := fun e => this fun n hn => by
      by_cases h2 : n ∈ b
      · exact h2
      · have : n ∈ pick a b false := (mem_pick a b false n).2 ⟨hn, by simp [h2]⟩
        rw [e] at this; cases this
    have := List.length_pos_iff.2 hne
    simp; exact hne
  · have e : pick a b false = [] := by
      refine List.eq_nil_iff_forall_not_mem.2 fun n hn => ?_
      obtain ⟨h1, h2⟩ := (mem_pick a b false n).1 hn
      have := h.1 hr n h1
      simp [this] at h2
    rw [e]; rfl

end Go.Proofs.YtdgfnnjcpoklfaaDoor.Nums
