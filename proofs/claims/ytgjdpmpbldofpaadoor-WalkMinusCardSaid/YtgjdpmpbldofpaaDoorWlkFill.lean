/- The prefixes from one address to another one: the widest ones first found, and that they are the fewest. It speaks of no function of the program. -/
import Derived.Test.YtgjdpmpbldofpaaDoorWlkBlk
namespace Go.Proofs.YtgjdpmpbldofpaaDoor.Wlk
open Mem Pfx PR

/-- The largest j up to m such that a block of 2 ^ j addresses begins at a and ends by e. -/
def blkD (a e : Nat) : Nat → Nat
  | 0 => 0
  | j + 1 => if a % 2 ^ (j + 1) = 0 ∧ a + 2 ^ (j + 1) ≤ e then j + 1 else blkD a e j
def blk (a e : Nat) : Nat := blkD a e 32
theorem blkD_le (a e : Nat) : ∀ m, blkD a e m ≤ m
  | 0 => Nat.le_refl _
  | j + 1 => by
    unfold blkD
    split
    · exact Nat.le_refl _
    · exact Nat.le_succ_of_le (blkD_le a e j)
theorem blkD_is {a e : Nat} (h : a < e) : ∀ m, a % 2 ^ blkD a e m = 0 ∧ a + 2 ^ blkD a e m ≤ e
  | 0 => by simp [blkD, Nat.mod_one]; omega
  | j + 1 => by
    unfold blkD
    split
    · assumption
    · exact blkD_is h j
theorem blkD_top {a e : Nat} : ∀ m i, i ≤ m → a % 2 ^ i = 0 → a + 2 ^ i ≤ e → i ≤ blkD a e m
  | 0, i, h, _, _ => by omega
  | j + 1, i, h, h1, h2 => by
    unfold blkD
    split
    · exact h
    · rename_i hn
      rcases Nat.lt_or_eq_of_le h with h3 | h3
      · exact blkD_top j i (by omega) h1 h2
      · subst h3
        exact absurd ⟨h1, h2⟩ hn
theorem blk_le (a e : Nat) : blk a e ≤ 32 := blkD_le a e 32
theorem blk_is {a e : Nat} (h : a < e) : a % 2 ^ blk a e = 0 ∧ a + 2 ^ blk a e ≤ e := blkD_is h 32
theorem blk_top {a e i : Nat} (h : i ≤ 32) (h1 : a % 2 ^ i = 0) (h2 : a + 2 ^ i ≤ e) : i ≤ blk a e := blkD_top 32 i h h1 h2
theorem mod_down {a i j : Nat} (h : i ≤ j) (h1 : a % 2 ^ j = 0) : a % 2 ^ i = 0 :=
  Nat.mod_eq_zero_of_dvd (Nat.dvd_trans (Nat.pow_dvd_pow 2 h) (Nat.dvd_of_mod_eq_zero h1))
/-- It is told by what stands and what no more does. -/
theorem blk_eq {a e j : Nat} (hj : j ≤ 32) (h1 : a % 2 ^ j = 0) (h2 : a + 2 ^ j ≤ e) (h3 : j = 32 ∨ a % 2 ^ (j + 1) ≠ 0 ∨ e < a + 2 ^ (j + 1)) : blk a e = j := by
  have hps := pow_pos j
  have k1 := blk_top hj h1 h2
  have k2 := blk_is (show a < e by omega)
  have k3 := blk_le a e
  rcases Nat.lt_or_ge j (blk a e) with h | h
  · exfalso
    have k4 := mod_down (show j + 1 ≤ blk a e by omega) k2.1
    have k5 := pow_mono (show j + 1 ≤ blk a e by omega)
    rcases h3 with h3 | h3 | h3
    · omega
    · exact h3 k4
    · omega
  · omega

def fillL (a e : Nat) : List Pf :=
  if h : a < e then mk a (blk a e) :: fillL (a + 2 ^ blk a e) e else []
termination_by e - a
decreasing_by have := pow_pos (blk a e); omega
theorem fillL_end {a e : Nat} (h : e ≤ a) : fillL a e = [] := by rw [fillL, dif_neg (by omega)]
theorem fillL_go {a e : Nat} (h : a < e) : fillL a e = mk a (blk a e) :: fillL (a + 2 ^ blk a e) e := by rw [fillL, dif_pos h]
theorem fillL_in : ∀ (n a e : Nat), e - a ≤ n → a ≤ e → e ≤ 4294967296 → (∀ p ∈ fillL a e, G p ∧ a ≤ p.a ∧ p.a + sz p ≤ e) ∧ ∀ x, has (fillL a e) x ↔ (a ≤ x ∧ x < e)
  | n, a, e, hn, hae, he => by
    rcases Nat.lt_or_ge a e with h | h
    · have hb := blk_is h
      have hps := pow_pos (blk a e)
      have hle := blk_le a e
      match n with
      | 0 => omega
      | n + 1 =>
        obtain ⟨h1, h2⟩ := fillL_in n (a + 2 ^ blk a e) e (by omega) hb.2 he
        rw [fillL_go h]
        have hs : sz (mk a (blk a e)) = 2 ^ blk a e := mk_sz hle
        constructor
        · intro p hp
          rcases List.mem_cons.1 hp with rfl | hp
          · exact ⟨mk_G hle (Nat.dvd_of_mod_eq_zero hb.1) (by omega), Nat.le_refl _, by rw [hs]; exact hb.2⟩
          · have := h1 p hp
            exact ⟨this.1, by omega, this.2.2⟩
        · intro x
          rw [has_cons, h2]
          unfold inP
          rw [hs, mk_a]
          omega
    · rw [fillL_end h]
      exact ⟨fun p hp => (by cases hp), fun x => ⟨fun h => absurd h (has_nil x), fun _ => by omega⟩⟩
theorem fill_in {a e : Nat} (hae : a ≤ e) (he : e ≤ 4294967296) : (∀ p ∈ fillL a e, G p ∧ a ≤ p.a ∧ p.a + sz p ≤ e) ∧ ∀ x, has (fillL a e) x ↔ (a ≤ x ∧ x < e) := fillL_in _ a e (Nat.le_refl _) hae he
theorem fillL_canon : ∀ (n a e : Nat), e - a ≤ n → a ≤ e → e ≤ 4294967296 → Canon (fillL a e)
  | n, a, e, hn, hae, he => by
    rcases Nat.lt_or_ge a e with h | h
    · have hb := blk_is h
      have hps := pow_pos (blk a e)
      have hle := blk_le a e
      match n with
      | 0 => omega
      | n + 1 =>
        have ih := fillL_canon n (a + 2 ^ blk a e) e (by omega) hb.2 he
        have hin := (fill_in (a := a + 2 ^ blk a e) hb.2 he).1
        have hs : sz (mk a (blk a e)) = 2 ^ blk a e := mk_sz hle
        have hg : G (mk a (blk a e)) := mk_G hle (Nat.dvd_of_mod_eq_zero hb.1) (by omega)
        rw [fillL_go h]
        refine ⟨⟨?_, ?_⟩, ?_⟩
        · intro p hp
          rcases List.mem_cons.1 hp with rfl | hp
          · exact hg
          · exact (hin p hp).1
        · rw [List.pairwise_cons]
          exact ⟨fun q hq => by rw [hs]; exact (hin q hq).2.1, ih.apart⟩
        · intro p hp q hq ht
          rcases List.mem_cons.1 hp with rfl | hp <;> rcases List.mem_cons.1 hq with rfl | hq
          · have := ht.2.1
            have := sz_pos (mk a (blk a e))
            omega
          · obtain ⟨t1, t2, t3⟩ := ht
            have k := hin q hq
            rw [mk_ex hle] at t1 t3
            have hq2 : sz q = 2 ^ blk a e := by unfold sz; rw [← t1]
            rw [hs, mk_a] at t2
            have hlt : blk a e < 32 := by
              rcases Nat.lt_or_eq_of_le hle with h3 | h3
              · exact h3
              · have := k.2.2
                rw [t2, hq2, h3] at this
                have : (2 : Nat) ^ 32 = 4294967296 := by decide
                omega
            have := blk_top (a := a) (e := e) (show blk a e + 1 ≤ 32 by omega) (Nat.mod_eq_zero_of_dvd t3) (by rw [Nat.pow_succ]; have := k.2.2; rw [t2, hq2] at this; omega)
            omega
          · have k := hin p hp
            have t2 := ht.2.1
            rw [mk_a] at t2
            have := sz_pos p
            omega
          · exact ih.whole p hp q hq ht
    · rw [fillL_end h]
      exact Canon.nil
theorem fill_canon {a e : Nat} (hae : a ≤ e) (he : e ≤ 4294967296) : Canon (fillL a e) := fillL_canon _ a e (Nat.le_refl _) hae he

/-- How many rounds are enough: while the blocks grow, then while they shrink. -/
def Room (a e f : Nat) : Prop := (∃ u, a % 2 ^ u = 0 ∧ e < a + 2 ^ u ∧ u ≤ f) ∨ ∃ t u, a % 2 ^ t = 0 ∧ e < a + 2 ^ u ∧ t ≤ u ∧ (u - t) + u ≤ f
theorem room_start {a e : Nat} (he : e ≤ 4294967296) : Room a e 66 := by
  refine .inr ⟨0, 33, by simp [Nat.mod_one], ?_, by omega, by omega⟩
  have : (2 : Nat) ^ 33 = 8589934592 := by decide
  omega
theorem mod_next {a j : Nat} (h1 : a % 2 ^ j = 0) (h2 : a % 2 ^ (j + 1) ≠ 0) : (a + 2 ^ j) % 2 ^ (j + 1) = 0 := by
  obtain ⟨c, rfl⟩ := Nat.dvd_of_mod_eq_zero h1
  rw [Nat.pow_succ] at h2 ⊢
  rw [Nat.mul_mod_mul_left] at h2
  have hc : c % 2 = 1 := by
    rcases Nat.mod_two_eq_zero_or_one c with h | h
    · rw [h] at h2
      simp at h2
    · exact h
  rw [← Nat.mul_succ, Nat.mul_mod_mul_left]
  rw [show c.succ % 2 = 0 by omega]
  simp
theorem room_step {a e f : Nat} (h : a < e) (he : e ≤ 4294967296) (hr : Room a e f) : ∃ g, f = g + 1 ∧ Room (a + 2 ^ blk a e) e g := by
  have hb := blk_is h
  have hle := blk_le a e
  have hps := pow_pos (blk a e)
  have hp32 : (2 : Nat) ^ 32 = 4294967296 := by decide
  -- the next smaller room
  have low : ∀ u, a % 2 ^ u = 0 → e < a + 2 ^ u → blk a e < u ∧ e < a + 2 ^ blk a e + 2 ^ blk a e := by
    intro u h1 h2
    have k1 : blk a e < u := by
      rcases Nat.lt_or_ge (blk a e) u with k | k
      · exact k
      · have := pow_mono k
        omega
    refine ⟨k1, ?_⟩
    rcases Nat.lt_or_ge e (a + 2 ^ blk a e + 2 ^ blk a e) with k | k
    · exact k
    · exfalso
      have h3 : blk a e ≠ 32 := by
        intro e3
        rw [e3, hp32] at k
        omega
      have := blk_top (a := a) (e := e) (show blk a e + 1 ≤ 32 by omega) (mod_down (show blk a e + 1 ≤ u by omega) h1) (by rw [Nat.pow_succ]; omega)
      omega
  rcases hr with ⟨u, h1, h2, h3⟩ | ⟨t, u, h1, h2, h3, h4⟩
  · obtain ⟨k1, k2⟩ := low u h1 h2
    refine ⟨f - 1, by omega, .inl ⟨blk a e, ?_, k2, by omega⟩⟩
    rw [Nat.add_mod_right]
    exact hb.1
  · have hu : blk a e < u := by
      rcases Nat.lt_or_ge (blk a e) u with k | k
      · exact k
      · have := pow_mono k
        omega
    rcases Nat.lt_or_eq_of_le h3 with ht | ht
    · have htb : t ≤ blk a e ∨ e < a + 2 ^ t := by
        rcases Nat.lt_or_ge e (a + 2 ^ t) with k | k
        · exact .inr k
        · refine .inl (blk_top (a := a) (e := e) ?_ h1 k)
          rcases Nat.lt_or_ge 32 t with k2 | k2
          · have := pow_mono (show 33 ≤ t by omega)
            have : (2 : Nat) ^ 33 = 8589934592 := by decide
            omega
          · exact k2
      rcases htb with htb | htb
      · by_cases hm : a % 2 ^ (blk a e + 1) = 0
        · have k2 : e < a + 2 ^ blk a e + 2 ^ blk a e := by
            rcases Nat.lt_or_ge e (a + 2 ^ blk a e + 2 ^ blk a e) with k | k
            · exact k
            · exfalso
              have h3 : blk a e ≠ 32 := by
                intro e3
                rw [e3, hp32] at k
                omega
              have := blk_top (a := a) (e := e) (show blk a e + 1 ≤ 32 by omega) hm (by rw [Nat.pow_succ]; omega)
              omega
          refine ⟨f - 1, by omega, .inl ⟨blk a e, ?_, k2, by omega⟩⟩
          rw [Nat.add_mod_right]
          exact hb.1
        · refine ⟨f - 1, by omega, .inr ⟨blk a e + 1, u, mod_next hb.1 hm, by omega, by omega, by omega⟩⟩
      · obtain ⟨k1, k2⟩ := low t h1 htb
        refine ⟨f - 1, by omega, .inl ⟨blk a e, ?_, k2, by omega⟩⟩
        rw [Nat.add_mod_right]
        exact hb.1
    · subst ht
      obtain ⟨k1, k2⟩ := low t h1 h2
      refine ⟨f - 1, by omega, .inl ⟨blk a e, ?_, k2, by omega⟩⟩
      rw [Nat.add_mod_right]
      exact hb.1
theorem fill_len : ∀ (f a e : Nat), e ≤ 4294967296 → Room a e f → (fillL a e).length ≤ f
  | f, a, e, he, hr => by
    rcases Nat.lt_or_ge a e with h | h
    · obtain ⟨g, rfl, hg⟩ := room_step h he hr
      rw [fillL_go h, List.length_cons]
      have := fill_len g (a + 2 ^ blk a e) e he hg
      omega
    · rw [fillL_end h]
      simp
end Go.Proofs.YtgjdpmpbldofpaaDoor.Wlk
