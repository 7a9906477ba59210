/- Plain mathematics of rows of counts: what a key has, what all have, and that their order makes no difference. -/
import Derived.Test.YtifaclbafmpiiaaTalFace
namespace Go.Proofs.Ytifaclbafmpiiaa.Tal

/-- What a key has; what all have. -/
def ofG (g : Cnt → Nat) : List Cnt → Nat → Nat
  | [], _ => 0
  | r :: l, k => if r.key = k then g r else ofG g l k
def sumG (g : Cnt → Nat) (l : List Cnt) : Nat := (l.map g).sum
theorem idx_cons (x : Cnt) (l : List Cnt) (k : Nat) : idx (x :: l) k = if x.key = k then some 0 else (idx l k).map (· + 1) := by
  unfold idx
  rw [List.findIdx?_cons]
  by_cases h : x.key = k <;> simp [h]
theorem of_ins (g : Cnt → Nat) : ∀ (l : List Cnt) (r : Cnt) (k : Nat), idx l r.key = none → ofG g (insS l r) k = ofG g l k + if r.key = k then g r else 0
  | [], r, k, _ => by simp [insS, ofG]
  | x :: l, r, k, h => by
    rw [idx_cons] at h
    by_cases hx : x.key = r.key
    · rw [if_pos hx] at h; cases h
    · rw [if_neg hx] at h
      have h2 : idx l r.key = none := by simpa using h
      have ih := of_ins g l r k h2
      unfold insS
      by_cases hlt : x.key < r.key
      · rw [if_pos hlt]
        unfold ofG
        by_cases hk : x.key = k
        · rw [if_pos hk, if_pos hk, if_neg (fun e => hx (hk.trans e.symm))]; omega
        · rw [if_neg hk, if_neg hk, ih]
      · rw [if_neg hlt]
        by_cases hk : r.key = k
        · have hn : ∀ (m : List Cnt), idx m r.key = none → ofG g m k = 0 := by
            intro m
            induction m with
            | nil => intro _; rfl
            | cons y m im =>
              intro hm
              rw [idx_cons] at hm
              by_cases hy : y.key = r.key
              · rw [if_pos hy] at hm; cases hm
              · rw [if_neg hy] at hm
                unfold ofG
                rw [if_neg (fun e => hy (e.trans hk.symm))]
                exact im (by simpa using hm)
          have h3 : idx (x :: l) r.key = none := by rw [idx_cons, if_neg hx, h2]; rfl
          rw [hn _ h3]
          show (if r.key = k then g r else ofG g (x :: l) k) = _
          rw [if_pos hk, if_pos hk]; omega
        · show (if r.key = k then g r else ofG g (x :: l) k) = _
          rw [if_neg hk, if_neg hk]; omega
theorem of_set (g : Cnt → Nat) : ∀ (l : List Cnt) (i : Nat) (r r2 : Cnt) (k : Nat), idx l r.key = some i → l[i]? = some r → r2.key = r.key → ofG g (l.set i r2) k + (if r.key = k then g r else 0) = ofG g l k + if r.key = k then g r2 else 0
  | [], i, r, r2, k, _, h, _ => by simp at h
  | x :: l, 0, r, r2, k, _, h, hk => by
    obtain rfl : x = r := by simpa using h
    simp only [List.set_cons_zero, ofG, hk]
    by_cases h2 : x.key = k <;> simp [h2]; omega
  | x :: l, i + 1, r, r2, k, hi, h, hk => by
    rw [idx_cons] at hi
    by_cases hx : x.key = r.key
    · rw [if_pos hx] at hi; cases hi
    · rw [if_neg hx] at hi
      have hi2 : idx l r.key = some i := by
        cases hq : idx l r.key with
        | none => rw [hq] at hi; cases hi
        | some j => rw [hq] at hi; simp at hi; rw [hi]
      have ih := of_set g l i r r2 k hi2 (by simpa using h) hk
      rw [List.set_cons_succ]
      unfold ofG
      by_cases h2 : x.key = k
      · rw [if_pos h2, if_pos h2, if_neg (fun e => hx (h2.trans e.symm)), if_neg (fun e => hx (h2.trans e.symm))]
      · rw [if_neg h2, if_neg h2]; exact ih
theorem sum_ins (g : Cnt → Nat) (l : List Cnt) (r : Cnt) : sumG g (insS l r) = sumG g l + g r := by
  induction l with
  | nil => simp [insS, sumG]
  | cons x l ih =>
    unfold insS
    split
    · simp [sumG] at ih ⊢; omega
    · simp [sumG]; omega
theorem sum_set (g : Cnt → Nat) : ∀ (l : List Cnt) (i : Nat) (r r2 : Cnt), l[i]? = some r → sumG g (l.set i r2) + g r = sumG g l + g r2
  | [], i, r, r2, h => by simp at h
  | x :: l, 0, r, r2, h => by
    obtain rfl : x = r := by simpa using h
    simp [sumG]; omega
  | x :: l, i + 1, r, r2, h => by
    have ih := sum_set g l i r r2 (by simpa using h)
    simp [sumG] at ih ⊢; omega
/-- What a key has behind an addition; what all have. -/
theorem up_add (l : List Cnt) (key u d k : Nat) : ofG Cnt.up (addS l key u d) k = ofG Cnt.up l k + (if key = k then u else 0) ∧ ofG Cnt.down (addS l key u d) k = ofG Cnt.down l k + (if key = k then d else 0) ∧
    sumG Cnt.up (addS l key u d) = sumG Cnt.up l + u ∧ sumG Cnt.down (addS l key u d) = sumG Cnt.down l + d := by
  unfold addS
  cases h : idx l key with
  | none => exact ⟨of_ins _ l _ k h, of_ins _ l _ k h, sum_ins _ l _, sum_ins _ l _⟩
  | some i =>
    obtain ⟨r, hr, hk⟩ := idx_at h
    subst hk
    simp only [hr]
    have h1 := of_set Cnt.up l i r ⟨r.key, r.up + u, r.down + d⟩ k h hr rfl
    have h2 := of_set Cnt.down l i r ⟨r.key, r.up + u, r.down + d⟩ k h hr rfl
    have h3 := sum_set Cnt.up l i r ⟨r.key, r.up + u, r.down + d⟩ hr
    have h4 := sum_set Cnt.down l i r ⟨r.key, r.up + u, r.down + d⟩ hr
    refine ⟨?_, ?_, by simp at h3; omega, by simp at h4; omega⟩
    · by_cases hk : r.key = k
      · simp only [if_pos hk] at h1 ⊢; omega
      · simp only [if_neg hk] at h1 ⊢; omega
    · by_cases hk : r.key = k
      · simp only [if_pos hk] at h2 ⊢; omega
      · simp only [if_neg hk] at h2 ⊢; omega
end Go.Proofs.Ytifaclbafmpiiaa.Tal
