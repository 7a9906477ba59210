/- The law WalkSteps: what it reckons. It speaks of no function of the program. -/
import Derived.Test.YtgjdpmpbldofpaaWlkSteps
import Derived.Test.YtgjdpmpbldofpaaPfxWalkC
namespace Go.Proofs.Ytgjdpmpbldofpaa.Wlk
open Go.RowKit Mem Pfx PR

/-- What the law makes of the depth first. -/
def lawD (d : Int) : Int := if 4 < d ∧ d ≤ 8 then 4 else d
/-- How many after i rounds. -/
theorem cnt_end {p : Pf} (hp : G p) {D i : Nat} (hi : i ≤ D + 1) (he : i = D + 1 ∨ 32 < p.n + (i : Int)) (h2 : i = 0 ∨ p.n + ((i - 1 : Nat) : Int) ≤ 32) : (stepsL D p).length = 2 ^ i - 1 := by
  rw [steps_cnt D p hp, cnt_pow]
  have hl := hp.len
  have hex : ex p = 32 - p.n.toNat := rfl
  congr 2
  omega
theorem ahead_cmp {p q : Pf} (h : PR.ahead p q = true) : cmpP p.a p.n q.a q.n = -1 := by
  rw [ahead_iff'] at h
  unfold cmpP
  rw [if_pos h]
theorem rising_at {S : List Pf} (h : Rising S) {i : Nat} {p q : Pf} (hp : S[i]? = some p) (hq : S[i + 1]? = some q) : PR.ahead p q = true := by
  obtain ⟨i1, i2⟩ := List.getElem?_eq_some_iff.1 hp
  obtain ⟨k1, k2⟩ := List.getElem?_eq_some_iff.1 hq
  have := List.pairwise_iff_getElem.1 h i (i + 1) i1 k1 (Nat.lt_succ_self i)
  rw [i2, k2] at this
  exact this
theorem eqN (a b : Nat) : ((a : Int) == (b : Int)) = decide (a = b) := by
  by_cases h : a = b
  · subst h; simp
  · rw [decide_eq_false h]; simp; omega
theorem eqI (a b : Int) : (a == b) = decide (a = b) := by
  by_cases h : a = b
  · subst h; simp
  · rw [decide_eq_false h]; simp; omega

theorem cov_ok {p q : Pf} (h : cov p q = true) (hq : q.ok) : G q := ⟨(cov_good h).2, hq.1⟩
/-- Which of the prefixes it is. -/
theorem any_is {p q : Pf} (gp : G p) (hq : q.ok) (D : Nat) : (stepsL D p).any (fun r => sameB r q) = (cov p q && decide (q.n - p.n ≤ (D : Int))) := by
  refine Bool.eq_iff_iff.2 ?_
  rw [List.any_eq_true, Bool.and_eq_true, decide_eq_true_iff]
  constructor
  · rintro ⟨r, hr, hs⟩
    rw [sameB_eq] at hs
    subst hs
    obtain ⟨h1, h2, h3⟩ := (steps_in D p gp r).1 hr
    have := h1.len
    have := gp.len
    refine ⟨h2, ?_⟩
    unfold ex at h3
    omega
  · rintro ⟨h1, h2⟩
    have gq := cov_ok h1 hq
    have := gq.len
    have := gp.len
    refine ⟨q, (steps_in D p gp q).2 ⟨gq, h1, ?_⟩, sameB_eq.2 rfl⟩
    unfold ex
    omega
theorem any_take {l : List Pf} {q r : Pf} {i : Nat} (h : l[i]? = some r) : (l.take (i + 1)).any (fun r => sameB r q) = ((l.take i).any (fun r => sameB r q) || sameB r q) := by
  rw [List.take_add_one, h, List.any_append]
  simp
end Go.Proofs.Ytgjdpmpbldofpaa.Wlk
