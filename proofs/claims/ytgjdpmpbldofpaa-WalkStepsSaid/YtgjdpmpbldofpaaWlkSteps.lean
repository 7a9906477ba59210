/- What a prefix covers, so deep: in order. It speaks of no function of the program. -/
import Derived.Test.YtgjdpmpbldofpaaWlkTop
namespace Go.Proofs.Ytgjdpmpbldofpaa.Wlk
open Mem Pfx PR

def lowP (p : Pf) : Pf := mk p.a (ex p - 1)
def highP (p : Pf) : Pf := mk (p.a + 2 ^ (ex p - 1)) (ex p - 1)
def stepsL : Nat → Pf → List Pf
  | 0, p => [p]
  | d + 1, p => if 0 < ex p then p :: (stepsL d (lowP p) ++ stepsL d (highP p)) else [p]
theorem half_ps {p : Pf} (hp : G p) (h : 0 < ex p) : G (lowP p) ∧ G (highP p) ∧ ex (lowP p) = ex p - 1 ∧ ex (highP p) = ex p - 1 ∧ sz p = sz (lowP p) + sz (highP p) ∧ sz (lowP p) = 2 ^ (ex p - 1) ∧ sz (highP p) = 2 ^ (ex p - 1) := by
  have he := hp.ex_le
  have hpw : sz p = 2 ^ (ex p - 1) * 2 := by unfold sz; rw [← Nat.pow_succ]; congr 1; omega
  have ht := hp.top
  have hps := pow_pos (ex p - 1)
  have hd : 2 ^ (ex p - 1) ∣ p.a := Nat.dvd_trans (Nat.pow_dvd_pow 2 (by omega)) hp.dvd
  have s1 : sz (lowP p) = 2 ^ (ex p - 1) := mk_sz (by omega)
  have s2 : sz (highP p) = 2 ^ (ex p - 1) := mk_sz (by omega)
  exact ⟨mk_G (by omega) hd hp.2, mk_G (by omega) (Nat.dvd_add hd (Nat.dvd_refl _)) (by omega), mk_ex (by omega), mk_ex (by omega), by omega, s1, s2⟩
theorem steps_len : ∀ (d : Nat) (p : Pf), (stepsL d p).length < 2 ^ (d + 1)
  | 0, p => by simp [stepsL]
  | d + 1, p => by
    unfold stepsL
    have h1 := steps_len d (lowP p)
    have h2 := steps_len d (highP p)
    have h3 : 2 ^ (d + 1 + 1) = 2 ^ (d + 1) * 2 := Nat.pow_succ _ _
    split
    · rw [List.length_cons, List.length_append]
      omega
    · have := pow_pos (d + 1)
      rw [List.length_singleton]
      omega
/-- How many there are. -/
def cntS : Nat → Nat → Nat
  | 0, _ => 1
  | _ + 1, 0 => 1
  | d + 1, j + 1 => 1 + (cntS d j + cntS d j)
theorem steps_cnt : ∀ (d : Nat) (p : Pf), G p → (stepsL d p).length = cntS d (ex p)
  | 0, p, _ => by cases ex p <;> rfl
  | d + 1, p, hp => by
    unfold stepsL
    rcases Nat.eq_zero_or_pos (ex p) with h | h
    · rw [if_neg (by omega), h]
      rfl
    · obtain ⟨g1, g2, e1, e2, -⟩ := half_ps hp h
      rw [if_pos h, List.length_cons, List.length_append, steps_cnt d _ g1, steps_cnt d _ g2, e1, e2]
      obtain ⟨j, hj⟩ : ∃ j, ex p = j + 1 := ⟨ex p - 1, by omega⟩
      rw [hj, Nat.add_sub_cancel]
      show _ = 1 + (cntS d j + cntS d j)
      omega
/-- The law's reckoning: i rounds. -/
theorem cnt_pow : ∀ (d j : Nat), cntS d j = 2 ^ (min d j + 1) - 1
  | 0, j => by cases j <;> rfl
  | d + 1, 0 => rfl
  | d + 1, j + 1 => by
    show 1 + (cntS d j + cntS d j) = _
    rw [cnt_pow d j, show min (d + 1) (j + 1) = min d j + 1 by omega, Nat.pow_succ 2 (min d j + 1)]
    have := pow_pos (min d j + 1)
    omega
theorem steps_in : ∀ (d : Nat) (p : Pf), G p → ∀ q, q ∈ stepsL d p ↔ (G q ∧ cov p q = true ∧ ex p ≤ ex q + d)
  | 0, p, hp, q => by
    unfold stepsL
    rw [List.mem_singleton]
    constructor
    · rintro rfl
      exact ⟨hp, cov_self hp, Nat.le_refl _⟩
    · rintro ⟨hq, hc, he⟩
      have h1 := (cov_iff hp hq).1 hc
      have : sz p ≤ sz q := pow_mono (by omega)
      have := sz_pos q
      refine (hp.ext hq (by omega) (Nat.le_antisymm (by omega) (pow_ge (show sz q ≤ sz p by omega)))).symm
  | d + 1, p, hp, q => by
    unfold stepsL
    rcases Nat.eq_zero_or_pos (ex p) with h | h
    · rw [if_neg (by omega), List.mem_singleton]
      constructor
      · rintro rfl
        exact ⟨hp, cov_self hp, by omega⟩
      · rintro ⟨hq, hc, he⟩
        have h1 := (cov_iff hp hq).1 hc
        have hs : sz p = 1 := by unfold sz; rw [h]
        have := sz_pos q
        refine (hp.ext hq (by omega) (Nat.le_antisymm (by omega) (pow_ge (show sz q ≤ sz p by omega)))).symm
    · obtain ⟨g1, g2, e1, e2, e3, e4, e5⟩ := half_ps hp h
      rw [if_pos h, List.mem_cons, List.mem_append, steps_in d _ g1, steps_in d _ g2]
      have la : (lowP p).a = p.a := rfl
      have ha : (highP p).a = p.a + 2 ^ (ex p - 1) := rfl
      constructor
      · rintro (rfl | ⟨hq, hc, he⟩ | ⟨hq, hc, he⟩)
        · exact ⟨hp, cov_self hp, by omega⟩
        · have h1 := (cov_iff g1 hq).1 hc
          exact ⟨hq, (cov_iff hp hq).2 (by omega), by omega⟩
        · have h1 := (cov_iff g2 hq).1 hc
          exact ⟨hq, (cov_iff hp hq).2 (by omega), by omega⟩
      · rintro ⟨hq, hc, he⟩
        have h1 := (cov_iff hp hq).1 hc
        by_cases heq : ex p ≤ ex q
        · left
          have : sz p ≤ sz q := pow_mono heq
          have := sz_pos q
          refine (hp.ext hq (by omega) (Nat.le_antisymm heq (pow_ge (show sz q ≤ sz p by omega)))).symm
        · right
          have sq := sz_pos q
          rcases Nat.lt_or_ge q.a (p.a + 2 ^ (ex p - 1)) with h2 | h2
          · left
            have := nest g1 hq (y := q.a) (by omega) ⟨by omega, by omega⟩ (inP_self q)
            exact ⟨hq, (cov_iff g1 hq).2 this, by omega⟩
          · right
            exact ⟨hq, (cov_iff g2 hq).2 (by omega), by omega⟩
theorem steps_rising : ∀ (d : Nat) (p : Pf), G p → Rising (stepsL d p)
  | 0, p, _ => List.pairwise_singleton _ _
  | d + 1, p, hp => by
    unfold stepsL
    rcases Nat.eq_zero_or_pos (ex p) with h | h
    · rw [if_neg (by omega)]
      exact List.pairwise_singleton _ _
    · obtain ⟨g1, g2, e1, e2, e3, e4, e5⟩ := half_ps hp h
      rw [if_pos h]
      unfold Rising
      rw [List.pairwise_cons, List.pairwise_append]
      have ha : (highP p).a = p.a + 2 ^ (ex p - 1) := rfl
      have la : (lowP p).a = p.a := rfl
      refine ⟨?_, steps_rising d _ g1, steps_rising d _ g2, ?_⟩
      · intro q hq
        have hin : G q ∧ cov p q = true ∧ ex q < ex p := by
          rcases List.mem_append.1 hq with hq | hq
          · obtain ⟨k1, k2, k3⟩ := (steps_in d _ g1 q).1 hq
            have h1 := (cov_iff g1 k1).1 k2
            have : ex q ≤ ex (lowP p) := pow_ge (show sz q ≤ sz (lowP p) by omega)
            exact ⟨k1, (cov_iff hp k1).2 (by omega), by omega⟩
          · obtain ⟨k1, k2, k3⟩ := (steps_in d _ g2 q).1 hq
            have h1 := (cov_iff g2 k1).1 k2
            have : ex q ≤ ex (highP p) := pow_ge (show sz q ≤ sz (highP p) by omega)
            exact ⟨k1, (cov_iff hp k1).2 (by omega), by omega⟩
        refine cov_ahead hp hin.1 hin.2.1 (fun e => ?_)
        have := hin.2.2
        rw [e] at this
        omega
      · intro q hq r hr
        obtain ⟨k1, k2, -⟩ := (steps_in d _ g1 q).1 hq
        obtain ⟨l1, l2, -⟩ := (steps_in d _ g2 r).1 hr
        have h1 := (cov_iff g1 k1).1 k2
        have h2 := (cov_iff g2 l1).1 l2
        have := sz_pos q
        rw [ahead_iff']
        left
        omega
end Go.Proofs.Ytgjdpmpbldofpaa.Wlk
