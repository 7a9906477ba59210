/- Plain mathematics of communities' texts: halves, names, what is read again. It imports nothing of the program. -/
import Derived.Test.YtdgfnnjcpoklfaaDoorParseMath
import Derived.Test.YtdgfnnjcpoklfaaDoorSetMath
namespace Go.Proofs.YtdgfnnjcpoklfaaDoor.Com
open Pfx Dec Rise

def nExp : List UInt8 := [110, 111, 45, 101, 120, 112, 111, 114, 116]
def nAdv : List UInt8 := [110, 111, 45, 97, 100, 118, 101, 114, 116, 105, 115, 101]
def nSub : List UInt8 := [110, 111, 45, 101, 120, 112, 111, 114, 116, 45, 115, 117, 98, 99, 111, 110, 102, 101, 100]
/-- Both halves, a colon between. -/
def halfT (c : Nat) : List UInt8 := dec (c / 65536) ++ 58 :: dec (c % 65536)
/-- A community's text. -/
def ctext (c : Nat) : List UInt8 := if c = 4294967041 then nExp else if c = 4294967042 then nAdv else if c = 4294967043 then nSub else halfT c
theorem ctext_exp : ctext 4294967041 = nExp := rfl
theorem ctext_adv : ctext 4294967042 = nAdv := rfl
theorem ctext_sub : ctext 4294967043 = nSub := rfl
theorem ctext_half {c : Nat} (h1 : c ≠ 4294967041) (h2 : c ≠ 4294967042) (h3 : c ≠ 4294967043) : ctext c = halfT c := by
  unfold ctext
  rw [if_neg h1, if_neg h2, if_neg h3]
theorem ctext_cases (c : Nat) : (c = 4294967041 ∧ ctext c = nExp) ∨ (c = 4294967042 ∧ ctext c = nAdv) ∨ (c = 4294967043 ∧ ctext c = nSub) ∨ ((c ≠ 4294967041 ∧ c ≠ 4294967042 ∧ c ≠ 4294967043) ∧ ctext c = halfT c) := by
  by_cases h1 : c = 4294967041
  · exact .inl ⟨h1, by rw [h1]; rfl⟩
  · by_cases h2 : c = 4294967042
    · exact .inr (.inl ⟨h2, by rw [h2]; rfl⟩)
    · by_cases h3 : c = 4294967043
      · exact .inr (.inr (.inl ⟨h3, by rw [h3]; rfl⟩))
      · exact .inr (.inr (.inr ⟨⟨h1, h2, h3⟩, ctext_half h1 h2 h3⟩))
theorem half_len {c : Nat} (h : c < 4294967296) : (halfT c).length ≤ 11 := by
  have h1 := dec_len (c / 65536) 5 (by omega) (by omega)
  have h2 := dec_len (c % 65536) 5 (by omega) (by omega)
  unfold halfT
  simp only [List.length_append, List.length_cons]
  omega
theorem ctext_len {c : Nat} (h : c < 4294967296) : (ctext c).length ≤ 19 := by
  rcases ctext_cases c with ⟨_, e⟩ | ⟨_, e⟩ | ⟨_, e⟩ | ⟨_, e⟩
  · rw [e]; decide
  · rw [e]; decide
  · rw [e]; decide
  · rw [e]; have := half_len h; omega
theorem half_colon (c : Nat) : (58 : UInt8) ∈ halfT c := by unfold halfT; simp
theorem half_no_blank (c : Nat) : (32 : UInt8) ∉ halfT c := by
  unfold halfT
  simp only [List.mem_append, List.mem_cons, not_or]
  exact ⟨no_blank _, by decide, no_blank _⟩
theorem ctext_no_blank (c : Nat) : (32 : UInt8) ∉ ctext c := by
  rcases ctext_cases c with ⟨_, e⟩ | ⟨_, e⟩ | ⟨_, e⟩ | ⟨_, e⟩
  · rw [e]; decide
  · rw [e]; decide
  · rw [e]; decide
  · rw [e]; exact half_no_blank c
theorem half_long (c : Nat) : 3 ≤ (halfT c).length := by
  have h1 := List.length_pos_iff.2 (Dec.dec_ne (c / 65536))
  have h2 := List.length_pos_iff.2 (Dec.dec_ne (c % 65536))
  unfold halfT
  simp only [List.length_append, List.length_cons]
  omega
theorem ctext_long (c : Nat) : 3 ≤ (ctext c).length := by
  rcases ctext_cases c with ⟨_, e⟩ | ⟨_, e⟩ | ⟨_, e⟩ | ⟨_, e⟩
  · rw [e]; decide
  · rw [e]; decide
  · rw [e]; decide
  · rw [e]; exact half_long c
theorem ctext_ne (c : Nat) : ctext c ≠ [] := fun e => by have := ctext_long c; rw [e] at this; simp at this

theorem parse16_iff (l : List UInt8) (u : Nat) : Lib.parseUintB 16 l = .ok u ↔ l ≠ [] ∧ l.all dig = true ∧ val l ≤ 65535 ∧ u = val l := by
  unfold Lib.parseUintB
  by_cases h : l = []
  · rw [if_pos h]
    constructor
    · intro e; cases e
    · intro e; exact absurd h e.1
  · rw [if_neg h, parseM_iff _ (by decide) l 0 u (Nat.zero_le _), valA_val]
    simp [h]
theorem parse16_dec {n : Nat} (h : n ≤ 65535) : Lib.parseUintB 16 (dec n) = .ok n :=
  (parse16_iff _ _).2 ⟨Dec.dec_ne n, dec_all n, by rw [Dec.dec_val]; exact h, (Dec.dec_val n).symm⟩
theorem parse16_le {l : List UInt8} {u : Nat} (h : Lib.parseUintB 16 l = .ok u) : u ≤ 65535 := by
  obtain ⟨_, _, h1, rfl⟩ := (parse16_iff l u).1 h
  exact h1

/-- What 'named' finds. -/
def namedP (s : List UInt8) : Option Nat := if nExp = s then some 4294967041 else if nAdv = s then some 4294967042 else if nSub = s then some 4294967043 else none
/-- A numeral of 16 bits, as the library reads it. -/
def num16 (l : List UInt8) : Option Nat := match Lib.parseUintB 16 l with
  | .ok u => some u
  | _ => none
/-- What 'halves' reads. -/
def halfOf (r : Bool) (A B : Option Nat) : Option Nat := match r, A, B with
  | true, some x, some y => some (x * 65536 + y)
  | _, _, _ => none
def halvesP (s : List UInt8) : Option Nat := halfOf (Lib.cut s [58]).2.2 (num16 (Lib.cut s [58]).1) (num16 (Lib.cut s [58]).2.1)
/-- What 'Parse' reads. -/
def creadOf (s : List UInt8) (A B : Option Nat) : Option Nat := match A with
  | some c => if ctext c = s then some c else none
  | none => match B with
    | some c => if ctext c = s then some c else none
    | none => none
def cread (s : List UInt8) : Option Nat := creadOf s (namedP s) (halvesP s)
theorem num16_le {l : List UInt8} {u : Nat} (h : num16 l = some u) : u ≤ 65535 := by
  unfold num16 at h
  split at h
  · rename_i u' hu
    rw [← Option.some.inj h]
    exact parse16_le hu
  · cases h
theorem num16_dec {n : Nat} (h : n ≤ 65535) : num16 (dec n) = some n := by unfold num16; rw [parse16_dec h]
theorem namedP_lt {s : List UInt8} {c : Nat} (h : namedP s = some c) : c < 4294967296 ∧ ctext c = s := by
  unfold namedP at h
  split at h
  · rename_i e; rw [← Option.some.inj h]; exact ⟨by decide, e⟩
  · split at h
    · rename_i e; rw [← Option.some.inj h]; exact ⟨by decide, e⟩
    · split at h
      · rename_i e; rw [← Option.some.inj h]; exact ⟨by decide, e⟩
      · cases h
theorem halvesP_lt {s : List UInt8} {c : Nat} (h : halvesP s = some c) : c < 4294967296 := by
  unfold halvesP halfOf at h
  split at h
  · rename_i x y h1 h2 h3
    have := num16_le h2
    have := num16_le h3
    have := Option.some.inj h
    omega
  · cases h
theorem cread_sound {s : List UInt8} {c : Nat} (h : cread s = some c) : s = ctext c ∧ c < 4294967296 := by
  unfold cread creadOf at h
  split at h
  · rename_i c' hc
    split at h
    · rename_i e
      have e2 := Option.some.inj h
      subst e2
      exact ⟨e.symm, (namedP_lt hc).1⟩
    · cases h
  · split at h
    · rename_i c' hc
      split at h
      · rename_i e
        have e2 := Option.some.inj h
        subst e2
        exact ⟨e.symm, halvesP_lt hc⟩
      · cases h
    · cases h
theorem halvesP_half {c : Nat} (h : c < 4294967296) : halvesP (halfT c) = some c := by
  have hn : (58 : UInt8) ∉ dec (c / 65536) := fun hm => by have := dec_mem hm; simp at this
  unfold halvesP halfT halfOf
  rw [cut_found hn]
  simp only
  rw [num16_dec (by omega), num16_dec (by omega)]
  simp only
  congr 1
  omega
theorem namedP_half (c : Nat) : namedP (halfT c) = none := by
  have h := half_colon c
  unfold namedP
  rw [if_neg fun e => by rw [← e] at h; revert h; decide, if_neg fun e => by rw [← e] at h; revert h; decide, if_neg fun e => by rw [← e] at h; revert h; decide]
theorem cread_text {c : Nat} (h : c < 4294967296) : cread (ctext c) = some c := by
  rcases ctext_cases c with ⟨e1, e⟩ | ⟨e1, e⟩ | ⟨e1, e⟩ | ⟨_, e⟩
  · subst e1; decide
  · subst e1; decide
  · subst e1; decide
  · rw [e]
    unfold cread creadOf
    rw [namedP_half, halvesP_half h]
    simp only
    rw [if_pos e]
theorem ctext_inj {a b : Nat} (ha : a < 4294967296) (hb : b < 4294967296) (h : ctext a = ctext b) : a = b := by
  have h1 := cread_text ha
  rw [h, cread_text hb] at h1
  exact (Option.some.inj h1).symm

/-- The text of communities. -/
def ctexts (l : List Nat) : List UInt8 := if l = [] then [45] else joinS (l.map ctext)
theorem split_ctexts {l : List Nat} (h : l ≠ []) : splitS (ctexts l) = l.map ctext := by
  unfold ctexts
  rw [if_neg h]
  refine split_join _ (by simpa using h) fun w hw => ?_
  obtain ⟨n, _, rfl⟩ := List.mem_map.1 hw
  exact ctext_no_blank n
theorem ctexts_bar {l : List Nat} (h : ctexts l = [45]) : l = [] := by
  by_cases hl : l = []
  · exact hl
  · exfalso
    have e := split_ctexts hl
    rw [h] at e
    cases l with
    | nil => exact hl rfl
    | cons a m =>
      simp only [List.map_cons] at e
      have e2 : splitS [45] = [[45]] := by decide
      rw [e2] at e
      have e3 := (List.cons.inj e).1
      have := ctext_long a
      rw [← e3] at this
      simp at this

/-- What a text's communities are, in whichever order. -/
def creads (s : List UInt8) : Option (List Nat) := (splitS s).mapM cread
theorem creads_sound' : ∀ {ws : List (List UInt8)} {l : List Nat}, ws.mapM cread = some l → ws = l.map ctext ∧ ∀ n ∈ l, n < 4294967296
  | [], l, h => by
    simp only [List.mapM_nil, Option.pure_def, Option.some.injEq] at h
    subst h; simp
  | w :: ws, l, h => by
    simp only [List.mapM_cons, Option.bind_eq_bind, Option.bind_eq_some_iff, Option.pure_def, Option.some.injEq] at h
    obtain ⟨n, hn, m, hm, rfl⟩ := h
    obtain ⟨e1, h1⟩ := cread_sound hn
    obtain ⟨e2, h2⟩ := creads_sound' hm
    refine ⟨by rw [e1, e2]; rfl, fun x hx => ?_⟩
    rcases List.mem_cons.1 hx with e | hx
    · rw [e]; exact h1
    · exact h2 x hx
theorem creads_text' : ∀ {l : List Nat}, (∀ n ∈ l, n < 4294967296) → (l.map ctext).mapM cread = some l
  | [], _ => rfl
  | n :: l, h => by
    rw [List.map_cons, List.mapM_cons, cread_text (h n (List.mem_cons_self ..)), creads_text' fun x hx => h x (List.mem_cons_of_mem _ hx)]; rfl
theorem creads_sound {s : List UInt8} {l : List Nat} (h : creads s = some l) : s = ctexts l ∧ (∀ n ∈ l, n < 4294967296) ∧ l ≠ [] := by
  obtain ⟨e, hl⟩ := creads_sound' h
  have hne : l ≠ [] := fun e2 => by rw [e2] at e; exact splitS_ne s e
  refine ⟨?_, hl, hne⟩
  unfold ctexts
  rw [if_neg hne, ← e, join_split]
theorem creads_text {l : List Nat} (h : ∀ n ∈ l, n < 4294967296) (hl : l ≠ []) : creads (ctexts l) = some l := by
  unfold creads
  rw [split_ctexts hl, creads_text' h]
theorem joinS_len : ∀ (ws : List (List UInt8)), (∀ w ∈ ws, 3 ≤ w.length) → 4 * ws.length ≤ (joinS ws).length + 1
  | [], _ => by simp [joinS]
  | [w], h => by have := h w (List.mem_cons_self ..); simp [joinS]; omega
  | w :: v :: ws, h => by
    have h1 := h w (List.mem_cons_self ..)
    have ih := joinS_len (v :: ws) fun x hx => h x (List.mem_cons_of_mem _ hx)
    rw [joinS]
    simp only [List.length_append, List.length_cons] at ih ⊢
    omega
theorem ctexts_count (l : List Nat) : 4 * l.length ≤ (ctexts l).length + 1 := by
  by_cases h : l = []
  · subst h; simp [ctexts]
  · unfold ctexts
    rw [if_neg h]
    have := joinS_len (l.map ctext) fun w hw => by
      obtain ⟨n, _, rfl⟩ := List.mem_map.1 hw
      exact ctext_long n
    simpa using this
/-- What 'ParseAll' reads. -/
def readAll (s : List UInt8) : Option (List Nat) := if s = [45] then some [] else match creads s with
  | some l => if decide (rising l) = true then some l else none
  | none => none
theorem readAll_sound {s : List UInt8} {l : List Nat} (h : readAll s = some l) : s = ctexts l ∧ (∀ n ∈ l, n < 4294967296) ∧ rising l := by
  unfold readAll at h
  split at h
  · rename_i e
    have e2 := Option.some.inj h
    subst e2
    exact ⟨by rw [e]; rfl, by simp, rising_nil⟩
  · split at h
    · rename_i m hm
      split at h
      · rename_i hr
        have e2 := Option.some.inj h
        subst e2
        obtain ⟨h1, h2, _⟩ := creads_sound hm
        exact ⟨h1, h2, of_decide_eq_true hr⟩
      · cases h
    · cases h
theorem readAll_text {l : List Nat} (h : ∀ n ∈ l, n < 4294967296) : readAll (ctexts l) = if rising l then some l else none := by
  by_cases hl : l = []
  · subst hl
    rw [if_pos rising_nil]; rfl
  · unfold readAll
    rw [if_neg fun e => hl (ctexts_bar e), creads_text h hl]
    simp only [decide_eq_true_eq]
end Go.Proofs.YtdgfnnjcpoklfaaDoor.Com
