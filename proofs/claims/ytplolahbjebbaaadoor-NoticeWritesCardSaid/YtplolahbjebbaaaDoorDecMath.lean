/- Plain mathematics of decimal numerals of whatever length: what is written is read again, and each numeral without a 0 ahead is one that is written. It imports nothing of the program. -/
import Derived.Test.YtplolahbjebbaaaDoorTextMath
namespace Go.Proofs.YtplolahbjebbaaaDoor.Dec
open Pfx

theorem dec_all (n : Nat) : (dec n).all dig = true := by
  induction n using Nat.strongRecOn with
  | _ n ih =>
    by_cases h : n < 10
    · rw [dec_one h]; simpa using (dig_of h).1
    · rw [dec_step h, List.all_append, ih (n / 10) (by omega)]
      simpa using (dig_of (show n % 10 < 10 by omega)).1
theorem dec_val (n : Nat) : val (dec n) = n := by
  induction n using Nat.strongRecOn with
  | _ n ih =>
    by_cases h : n < 10
    · rw [dec_one h]
      have := (dig_of h).2
      simp only [val, List.foldl]; omega
    · have := (dig_of (show n % 10 < 10 by omega)).2
      rw [dec_step h, val_snoc, ih (n / 10) (by omega)]; omega
theorem dec_ne (n : Nat) : dec n ≠ [] := by
  by_cases h : n < 10
  · rw [dec_one h]; simp
  · rw [dec_step h]; simp
theorem dec_inj {a b : Nat} (h : dec a = dec b) : a = b := by rw [← dec_val a, h, dec_val]
/-- No numeral but that of 0 has a 0 ahead. -/
theorem dec_head (n : Nat) (hn : n ≠ 0) : (dec n).head? ≠ some 48 := by
  induction n using Nat.strongRecOn with
  | _ n ih =>
    by_cases h : n < 10
    · rw [dec_one h]
      intro e
      have e2 := (dig_of h).2
      have e3 : UInt8.ofNat (48 + n) = 48 := Option.some.inj e
      rw [e3] at e2
      simp at e2; omega
    · rw [dec_step h]
      have h2 := ih (n / 10) (by omega) (by omega)
      cases hd : dec (n / 10) with
      | nil => exact absurd hd (dec_ne _)
      | cons c m => rw [hd] at h2; simpa using h2

theorem val_append_pos : ∀ (l : List UInt8), l.all dig = true → l ≠ [] → l.head? ≠ some 48 → 10 ^ (l.length - 1) ≤ val l := by
  intro l
  induction hn : l.length generalizing l with
  | zero => intro _ h; exact absurd (List.length_eq_zero_iff.1 hn) h
  | succ n ih =>
    intro hd _ hh
    rcases List.eq_nil_or_concat l with rfl | ⟨m, c, rfl⟩
    · simp at hn
    · rw [List.concat_eq_append] at *
      simp only [List.length_append, List.length_cons, List.length_nil] at hn
      simp only [List.all_append, List.all_cons, List.all_nil, Bool.and_true, Bool.and_eq_true] at hd
      obtain ⟨h1, h2, _⟩ := of_dig hd.2
      rw [val_snoc]
      by_cases hm : m = []
      · subst hm
        have : c ≠ 48 := by simpa using hh
        have h3 : c.toNat ≠ 48 := fun e => this (UInt8.toNat_inj.1 e)
        have hn0 : n = 0 := by simpa using hn.symm
        subst hn0
        simp [val]; omega
      · have hh2 : m.head? ≠ some 48 := by
          cases m with
          | nil => exact absurd rfl hm
          | cons a b => simpa using hh
        have h4 := ih m (by omega) hd.1 hm hh2
        have hn1 : n = (n - 1) + 1 := by
          cases m with
          | nil => exact absurd rfl hm
          | cons a b => simp at hn; omega
        rw [show n + 1 - 1 = (n - 1) + 1 by omega, Nat.pow_succ]
        omega
theorem val_lt (l : List UInt8) (hd : l.all dig = true) : val l < 10 ^ l.length := by
  induction hn : l.length generalizing l with
  | zero => rw [List.length_eq_zero_iff.1 hn]; decide
  | succ n ih =>
    rcases List.eq_nil_or_concat l with rfl | ⟨m, c, rfl⟩
    · simp at hn
    · rw [List.concat_eq_append] at *
      simp only [List.length_append, List.length_cons, List.length_nil] at hn
      simp only [List.all_append, List.all_cons, List.all_nil, Bool.and_true, Bool.and_eq_true] at hd
      obtain ⟨h1, h2, _⟩ := of_dig hd.2
      have := ih m hd.1 (by omega)
      rw [val_snoc, Nat.pow_succ]
      omega
/-- Each numeral without a 0 ahead is the one that is written of its value. -/
theorem dec_of : ∀ (l : List UInt8), l.all dig = true → l ≠ [] → (l.length = 1 ∨ l.head? ≠ some 48) → dec (val l) = l := by
  intro l
  induction hn : l.length generalizing l with
  | zero => intro _ h; exact absurd (List.length_eq_zero_iff.1 hn) h
  | succ n ih =>
    intro hd _ hh
    rcases List.eq_nil_or_concat l with rfl | ⟨m, c, rfl⟩
    · simp at hn
    · rw [List.concat_eq_append] at *
      simp only [List.length_append, List.length_cons, List.length_nil] at hn hh
      simp only [List.all_append, List.all_cons, List.all_nil, Bool.and_true, Bool.and_eq_true] at hd
      obtain ⟨h1, h2, h3⟩ := of_dig hd.2
      by_cases hm : m = []
      · subst hm
        have e : val ([] ++ [c]) = c.toNat - 48 := by simp [val]
        rw [e, dec_one (by omega), h3 _ (by omega)]; rfl
      · have hh1 : (m ++ [c]).head? ≠ some 48 := by
          rcases hh with hh | hh
          · exfalso
            have := List.length_pos_iff.2 hm
            omega
          · exact hh
        have hh2 : m.head? ≠ some 48 := by
          cases m with
          | nil => exact absurd rfl hm
          | cons a b => simpa using hh1
        have h4 := ih m (by omega) hd.1 hm (.inr hh2)
        have h5 := val_append_pos m hd.1 hm hh2
        have h6 : 1 ≤ val m := Nat.le_trans (Nat.pow_pos (by decide)) h5
        rw [val_snoc, dec_step (by omega)]
        rw [show (val m * 10 + (c.toNat - 48)) / 10 = val m by omega, show 48 + (val m * 10 + (c.toNat - 48)) % 10 = c.toNat by omega, h4, UInt8.ofNat_toNat]
theorem dec_len (n k : Nat) (hk : 0 < k) (h : n < 10 ^ k) : (dec n).length ≤ k := by
  by_cases h0 : n = 0
  · subst h0; rw [dec_one (by omega)]; simp; omega
  · have h1 := val_append_pos (dec n) (dec_all n) (dec_ne n) (dec_head n h0)
    rw [dec_val] at h1
    have h2 : 10 ^ ((dec n).length - 1) < 10 ^ k := Nat.lt_of_le_of_lt h1 h
    have h3 := (Nat.pow_lt_pow_iff_right (by decide : 1 < 10)).1 h2
    omega
theorem dec_mem {n : Nat} {c : UInt8} (hc : c ∈ dec n) : 48 ≤ c.toNat ∧ c.toNat ≤ 57 :=
  let h := of_dig (List.all_eq_true.1 (dec_all n) c hc)
  ⟨h.1, h.2.1⟩

/-- A numeral without a 0 ahead, of a number up to a bound. -/
def numW (most : Nat) (w : List UInt8) : Option Nat := if !w.isEmpty && w.all dig && (w.length == 1 || !(w.head? == some 48)) && decide (val w ≤ most) then some (val w) else none
theorem numW_sound {most n : Nat} {w : List UInt8} (h : numW most w = some n) : w = dec n ∧ n ≤ most := by
  unfold numW at h
  split at h
  · rename_i hc
    simp only [Bool.and_eq_true, Bool.or_eq_true, decide_eq_true_eq, beq_iff_eq, Bool.not_eq_true', List.isEmpty_eq_false_iff, beq_eq_false_iff_ne] at hc
    have e := Option.some.inj h
    subst e
    exact ⟨(dec_of w hc.1.1.2 hc.1.1.1 hc.1.2).symm, hc.2⟩
  · cases h
theorem numW_dec {most n : Nat} (h : n ≤ most) : numW most (dec n) = some n := by
  have h1 : (dec n).isEmpty = false := List.isEmpty_eq_false_iff.2 (dec_ne n)
  have h2 : ((dec n).length == 1 || !((dec n).head? == some 48)) = true := by
    by_cases h0 : n = 0
    · subst h0; rw [dec_one (by omega)]; rfl
    · have := dec_head n h0
      simp [this]
  unfold numW
  rw [h1, h2, dec_all, dec_val, decide_eq_true h]; rfl

/-- Words with a blank between two, and a text's words. -/
def joinS : List (List UInt8) → List UInt8
  | [] => []
  | [w] => w
  | w :: v :: ws => w ++ 32 :: joinS (v :: ws)
def splitS : List UInt8 → List (List UInt8)
  | [] => [[]]
  | c :: l => if c = 32 then [] :: splitS l else (c :: (splitS l).headD []) :: (splitS l).tail
theorem splitS_ne : ∀ l, splitS l ≠ []
  | [] => by simp [splitS]
  | c :: l => by unfold splitS; split <;> simp
theorem joinS_cons (w : List UInt8) {ws : List (List UInt8)} (h : ws ≠ []) : joinS (w :: ws) = w ++ 32 :: joinS ws := by
  cases ws with
  | nil => exact absurd rfl h
  | cons v ws => rfl
theorem joinS_head (c : UInt8) (w : List UInt8) (ws : List (List UInt8)) : joinS ((c :: w) :: ws) = c :: joinS (w :: ws) := by cases ws <;> rfl
theorem join_split : ∀ l, joinS (splitS l) = l
  | [] => rfl
  | c :: l => by
    have ih := join_split l
    have hne := splitS_ne l
    unfold splitS
    split
    · rename_i h
      rw [joinS_cons _ hne, ih, h]; rfl
    · rw [joinS_head]
      congr 1
      cases hs : splitS l with
      | nil => exact absurd hs hne
      | cons a b => rw [hs] at ih; exact ih
theorem split_word : ∀ (w l : List UInt8), (32 : UInt8) ∉ w → splitS (w ++ 32 :: l) = w :: splitS l
  | [], l, _ => by simp [splitS]
  | c :: w, l, h => by
    have h1 : ¬ c = 32 := fun e => h (e ▸ List.mem_cons_self ..)
    have ih := split_word w l fun m => h (List.mem_cons_of_mem _ m)
    rw [List.cons_append, splitS, if_neg h1, ih]; rfl
theorem split_last : ∀ (w : List UInt8), (32 : UInt8) ∉ w → splitS w = [w]
  | [], _ => rfl
  | c :: w, h => by
    have h1 : ¬ c = 32 := fun e => h (e ▸ List.mem_cons_self ..)
    have ih := split_last w fun m => h (List.mem_cons_of_mem _ m)
    rw [splitS, if_neg h1, ih]; rfl
theorem split_join : ∀ (ws : List (List UInt8)), ws ≠ [] → (∀ w ∈ ws, (32 : UInt8) ∉ w) → splitS (joinS ws) = ws
  | [], h, _ => absurd rfl h
  | [w], _, h => split_last w (h w (List.mem_cons_self ..))
  | w :: v :: ws, _, h => by
    rw [joinS, split_word w _ (h w (List.mem_cons_self ..)), split_join (v :: ws) (by simp) fun x hx => h x (List.mem_cons_of_mem _ hx)]

/-- The text of numbers: in decimal, a blank between two; of none a bar. -/
def textL (l : List Nat) : List UInt8 := if l = [] then [45] else joinS (l.map dec)
theorem no_blank (n : Nat) : (32 : UInt8) ∉ dec n := fun hm => by have := dec_mem hm; simp at this
theorem no_bar (n : Nat) : (45 : UInt8) ∉ dec n := fun hm => by have := dec_mem hm; simp at this
theorem split_text {l : List Nat} (h : l ≠ []) : splitS (textL l) = l.map dec := by
  unfold textL
  rw [if_neg h]
  refine split_join _ (by simpa using h) fun w hw => ?_
  obtain ⟨n, _, rfl⟩ := List.mem_map.1 hw
  exact no_blank n
theorem text_bar {l : List Nat} (h : textL l = [45]) : l = [] := by
  by_cases hl : l = []
  · exact hl
  · exfalso
    have e := split_text hl
    rw [h] at e
    cases l with
    | nil => exact hl rfl
    | cons a m =>
      simp only [List.map_cons] at e
      have e2 : splitS [45] = [[45]] := by decide
      rw [e2] at e
      have e3 := (List.cons.inj e).1
      exact no_bar a (by rw [← e3]; exact List.mem_cons_self ..)

/-- What a text's numbers are, if it is one of numbers up to a bound. -/
def readL (most : Nat) (s : List UInt8) : Option (List Nat) := if s = [45] then some [] else (splitS s).mapM (numW most)
theorem mapM_sound {most : Nat} : ∀ {ws : List (List UInt8)} {l : List Nat}, ws.mapM (numW most) = some l → ws = l.map dec ∧ ∀ n ∈ l, n ≤ most
  | [], l, h => by
    simp only [List.mapM_nil, Option.pure_def, Option.some.injEq] at h
    subst h; simp
  | w :: ws, l, h => by
    simp only [List.mapM_cons, Option.bind_eq_bind, Option.bind_eq_some_iff, Option.pure_def, Option.some.injEq] at h
    obtain ⟨n, hn, m, hm, rfl⟩ := h
    obtain ⟨e1, h1⟩ := numW_sound hn
    obtain ⟨e2, h2⟩ := mapM_sound hm
    refine ⟨by rw [e1, e2]; rfl, fun x hx => ?_⟩
    rcases List.mem_cons.1 hx with e | hx
    · rw [e]; exact h1
    · exact h2 x hx
theorem mapM_dec {most : Nat} : ∀ {l : List Nat}, (∀ n ∈ l, n ≤ most) → (l.map dec).mapM (numW most) = some l
  | [], _ => rfl
  | n :: l, h => by
    rw [List.map_cons, List.mapM_cons, numW_dec (h n (List.mem_cons_self ..)), mapM_dec fun x hx => h x (List.mem_cons_of_mem _ hx)]; rfl
theorem read_sound {most : Nat} {s : List UInt8} {l : List Nat} (h : readL most s = some l) : s = textL l ∧ ∀ n ∈ l, n ≤ most := by
  unfold readL at h
  split at h
  · rename_i hs
    have e := Option.some.inj h
    subst e
    exact ⟨by rw [hs]; rfl, by simp⟩
  · obtain ⟨e, hl⟩ := mapM_sound h
    refine ⟨?_, hl⟩
    have hne : l ≠ [] := fun e2 => by rw [e2] at e; exact splitS_ne s e
    unfold textL
    rw [if_neg hne, ← e, join_split]
theorem read_text {most : Nat} {l : List Nat} (h : ∀ n ∈ l, n ≤ most) : readL most (textL l) = some l := by
  unfold readL
  by_cases hl : l = []
  · subst hl; rfl
  · rw [if_neg fun e => hl (text_bar e), split_text hl, mapM_dec h]

end Go.Proofs.YtplolahbjebbaaaDoor.Dec
