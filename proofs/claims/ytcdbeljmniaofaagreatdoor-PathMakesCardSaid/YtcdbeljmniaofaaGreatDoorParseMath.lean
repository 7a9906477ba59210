/- What ParseUint reads, and which texts are numbers' own. It imports nothing of the program. -/
import Derived.Test.YtcdbeljmniaofaaGreatDoorDecMath
import Derived.Lib.ParseIntB
import Derived.Lib.CutLaws
namespace Go.Proofs.YtcdbeljmniaofaaGreatDoor.Dec
open Pfx

def valA (acc : Nat) (l : List UInt8) : Nat := l.foldl (fun n c => n * 10 + (c.toNat - 48)) acc
theorem valA_val (l : List UInt8) : valA 0 l = val l := rfl
theorem valA_ge (acc : Nat) (l : List UInt8) : acc ≤ valA acc l := by
  unfold valA
  induction l generalizing acc with
  | nil => exact Nat.le_refl _
  | cons c r ih =>
    have := ih (acc * 10 + (c.toNat - 48))
    simp only [List.foldl_cons]
    omega
theorem parseM_iff (M : Nat) (hM : M < 1844674407370955162) : ∀ (l : List UInt8) (acc u : Nat), acc ≤ M → (Lib.parseUintM M acc l = .ok u ↔ l.all dig = true ∧ valA acc l ≤ M ∧ u = valA acc l)
  | [], acc, u, ha => by
    simp only [Lib.parseUintM, Lib.NumEnd.ok.injEq, List.all_nil, valA, List.foldl_nil, true_and]
    exact ⟨fun h => ⟨ha, h.symm⟩, fun h => h.2.symm⟩
  | c :: r, acc, u, ha => by
    have hge := valA_ge (acc * 10 + (c.toNat - 48)) r
    have hv : valA acc (c :: r) = valA (acc * 10 + (c.toNat - 48)) r := rfl
    rw [hv]
    simp only [Lib.parseUintM, List.all_cons, Bool.and_eq_true]
    by_cases hd : 48 ≤ c.toNat ∧ c.toNat ≤ 57
    · rw [if_pos hd, if_neg (by omega)]
      have hd2 : dig c = true := by unfold dig; simp [hd]
      by_cases hm : M < acc * 10 + (c.toNat - 48)
      · rw [if_pos hm]
        constructor
        · intro h; cases h
        · intro h; omega
      · rw [if_neg hm, parseM_iff M hM r _ u (by omega)]
        simp [hd2]
    · rw [if_neg hd]
      have hd2 : ¬ dig c = true := by
        unfold dig
        simp only [Bool.and_eq_true, decide_eq_true_eq]
        exact hd
      constructor
      · intro h; cases h
      · intro h; exact absurd h.1.1 hd2
theorem parse32_iff (l : List UInt8) (u : Nat) : Lib.parseUintB 32 l = .ok u ↔ l ≠ [] ∧ l.all dig = true ∧ val l ≤ 4294967295 ∧ u = val l := by
  unfold Lib.parseUintB
  by_cases h : l = []
  · rw [if_pos h]
    constructor
    · intro e; cases e
    · intro e; exact absurd h e.1
  · rw [if_neg h, parseM_iff _ (by decide) l 0 u (Nat.zero_le _), valA_val]
    simp [h]

/-- The cut at a blank, and the words. -/
theorem cut_blank (s : List UInt8) : (∃ a b, Lib.cut s [32] = (a, b, true) ∧ splitS s = a :: splitS b ∧ a.length + b.length < s.length) ∨ (Lib.cut s [32] = (s, [], false) ∧ splitS s = [s]) := by
  rcases cut_cases s 32 with ⟨a, b, e, hn, hc⟩ | ⟨hn, hc⟩
  · refine .inl ⟨a, b, hc, by rw [e]; exact split_word a b hn, ?_⟩
    rw [e]; simp only [List.length_append, List.length_cons]; omega
  · exact .inr ⟨hc, split_last s hn⟩

/-- What has been read, and what is still to come. -/
def toCome (K : List Nat) (s : List UInt8) : Option (List Nat) := ((splitS s).mapM (numW 4294967295)).map (K ++ ·)
theorem toCome_start (s : List UInt8) : toCome [] s = (splitS s).mapM (numW 4294967295) := by
  unfold toCome
  cases (splitS s).mapM (numW 4294967295) <;> simp
theorem toCome_more {K : List Nat} {s a b : List UInt8} {n : Nat} (h : splitS s = a :: splitS b) (hn : numW 4294967295 a = some n) : toCome (K ++ [n]) b = toCome K s := by
  unfold toCome
  rw [h, List.mapM_cons, hn]
  cases (splitS b).mapM (numW 4294967295) <;> simp
theorem toCome_last {K : List Nat} {s : List UInt8} {n : Nat} (h : splitS s = [s]) (hn : numW 4294967295 s = some n) : toCome K s = some (K ++ [n]) := by
  unfold toCome
  rw [h, List.mapM_cons, hn]
  simp
theorem toCome_bad {K : List Nat} {s a : List UInt8} {r : List (List UInt8)} (h : splitS s = a :: r) (hn : numW 4294967295 a = none) : toCome K s = none := by
  unfold toCome
  rw [h, List.mapM_cons, hn]
  simp
theorem numW_32 (l : List UInt8) : numW 4294967295 l = match Lib.parseUintB 32 l with
    | .ok u => if 1 < l.length ∧ l.head? = some 48 then none else some u
    | _ => none := by
  have h := parse32_iff l
  have no : (∀ u, Lib.parseUintB 32 l ≠ .ok u) → numW 4294967295 l = none := fun hp => by
    unfold numW
    rw [if_neg]
    intro hc
    simp only [Bool.and_eq_true, Bool.not_eq_true', decide_eq_true_eq] at hc
    exact hp _ ((h (val l)).2 ⟨by simpa using hc.1.1.1, hc.1.1.2, hc.2, rfl⟩)
  rcases hp : Lib.parseUintB 32 l with u | _ | _
  · obtain ⟨h1, h2, h3, rfl⟩ := (h u).1 hp
    simp only
    unfold numW
    have hne : l.isEmpty = false := by simpa using h1
    rw [hne, h2, decide_eq_true h3]
    by_cases hz : 1 < l.length ∧ l.head? = some 48
    · have h4 : ¬ l.length = 1 := by omega
      rw [if_pos hz, if_neg (by simp [h4, hz.2])]
    · have h4 : l.length = 1 ∨ ¬ l.head? = some 48 := by
        by_cases h5 : l.length = 1
        · exact .inl h5
        · right
          intro h6
          have : 0 < l.length := List.length_pos_iff.2 h1
          exact hz ⟨by omega, h6⟩
      rw [if_neg hz, if_pos (by simpa using h4)]
  · exact no fun u e => by rw [hp] at e; cases e
  · exact no fun u e => by rw [hp] at e; cases e
end Go.Proofs.YtcdbeljmniaofaaGreatDoor.Dec
