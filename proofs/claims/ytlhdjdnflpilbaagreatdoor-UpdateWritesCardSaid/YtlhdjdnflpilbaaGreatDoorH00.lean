/- Plain mathematics of sets as rising lists: a rising list is known by its members; with a number, of a list, picked. It imports nothing of the program. Plain mathematics of paths: a number behind, the own form, numbers ahead, sets behind. It imports nothing of the program. Plain mathematics of prefixes: addresses as numbers below 2^32, their first bits, masks. It imports nothing of the program. Plain mathematics of paths that are cut into pieces of 255 numbers: the own form of a run of numbers, and sets behind. It imports nothing of the program. -/
import Derived.Laws.BitsAllLaws
namespace Go.Proofs.YtlhdjdnflpilbaaGreatDoor.Rise
def rising (l : List Nat) : Prop := l.Pairwise (· < ·)
instance decRising (l : List Nat) : Decidable (rising l) := by unfold rising; infer_instance
theorem rising_nil : rising [] := List.Pairwise.nil
theorem rising_cons {x : Nat} {l : List Nat} : rising (x :: l) ↔ (∀ y ∈ l, x < y) ∧ rising l := List.pairwise_cons
theorem rising_ext : ∀ {a b : List Nat}, rising a → rising b → (∀ x, x ∈ a ↔ x ∈ b) → a = b
 | [], [], _, _, _ => rfl
 | [], y :: b, _, _, h => absurd ((h y).2 (List.mem_cons_self ..)) (by simp)
 | x :: a, [], _, _, h => absurd ((h x).1 (List.mem_cons_self ..)) (by simp)
 | x :: a, y :: b, ha, hb, h => by
  obtain ⟨ha1, ha2⟩ := rising_cons.1 ha
  obtain ⟨hb1, hb2⟩ := rising_cons.1 hb
  have e : x = y := by
   rcases List.mem_cons.1 ((h x).1 (List.mem_cons_self ..)) with e | m
   ·exact e
   ·rcases List.mem_cons.1 ((h y).2 (List.mem_cons_self ..)) with e | m2
    ·exact e.symm
    ·have := hb1 x m; have := ha1 y m2; omega
  subst e
  congr 1
  refine rising_ext ha2 hb2 fun z => ?_
  constructor
  ·intro hz
   rcases List.mem_cons.1 ((h z).1 (List.mem_cons_of_mem _ hz)) with e | m
   ·have := ha1 z hz; omega
   ·exact m
  ·intro hz
   rcases List.mem_cons.1 ((h z).2 (List.mem_cons_of_mem _ hz)) with e | m
   ·have := hb1 z hz; omega
   ·exact m
def put (l : List Nat) (n : Nat) : List Nat := if n ∈ l then l else l.takeWhile (fun x => decide (x < n)) ++ n :: l.dropWhile (fun x => decide (x < n))
theorem mem_put (l : List Nat) (n x : Nat) : x ∈ put l n ↔ x = n ∨ x ∈ l := by
 unfold put
 split
 ·rename_i h
  exact ⟨.inr, fun h2 => h2.elim (fun e => e ▸ h) id⟩
 ·have e := List.takeWhile_append_dropWhile (p := fun x => decide (x < n)) (l := l)
  have hm : x ∈ l ↔ x ∈ l.takeWhile (fun x => decide (x < n)) ∨ x ∈ l.dropWhile (fun x => decide (x < n)) := by rw [← List.mem_append, e]
  rw [List.mem_append, List.mem_cons, hm]
  constructor
  ·rintro (h | h | h)
   ·exact .inr (.inl h)
   ·exact .inl h
   ·exact .inr (.inr h)
  ·rintro (h | h | h)
   ·exact .inr (.inl h)
   ·exact .inl h
   ·exact .inr (.inr h)
theorem rising_put : ∀ {l : List Nat} (n : Nat), rising l → rising (put l n)
 | [], n, _ => by simp [put, rising]
 | x :: l, n, h => by
  obtain ⟨h1, h2⟩ := rising_cons.1 h
  by_cases hm : n ∈ x :: l
  ·unfold put; rw [if_pos hm]; exact h
  ·have hml : n ∉ l := fun m => hm (List.mem_cons_of_mem _ m)
   have hx : x ≠ n := fun e => hm (e ▸ List.mem_cons_self ..)
   unfold put
   rw [if_neg hm]
   by_cases hlt : x < n
   ·have ih := rising_put n h2
    unfold put at ih
    rw [if_neg hml] at ih
    simp only [List.takeWhile, List.dropWhile, hlt, decide_true, List.cons_append]
    refine rising_cons.2 ⟨fun y hy => ?_, ih⟩
    have hy2 : y ∈ put l n := by unfold put; rw [if_neg hml]; exact hy
    rcases (mem_put l n y).1 hy2 with e | m
    ·omega
    ·exact h1 y m
   ·simp only [List.takeWhile, List.dropWhile, hlt, decide_false, List.nil_append]
    refine rising_cons.2 ⟨fun y hy => ?_, h⟩
    rcases List.mem_cons.1 hy with e | m
    ·omega
    ·have := h1 y m; omega
def setOf (l : List Nat) : List Nat := l.foldl put []
theorem setOf_snoc (l : List Nat) (n : Nat) : setOf (l ++ [n]) = put (setOf l) n := by unfold setOf; rw [List.foldl_append]; rfl
theorem setOf_both (l : List Nat) : rising (setOf l) ∧ ∀ x, x ∈ setOf l ↔ x ∈ l := by
 induction hn : l.length generalizing l with
 | zero => rw [List.length_eq_zero_iff.1 hn]; exact ⟨rising_nil, fun x => Iff.rfl⟩
 | succ n ih =>
  rcases List.eq_nil_or_concat l with rfl | ⟨m, c, rfl⟩
  ·simp at hn
  ·rw [List.concat_eq_append] at *
   obtain ⟨h1, h2⟩ := ih m (by simpa using hn)
   rw [setOf_snoc]
   refine ⟨rising_put c h1, fun x => ?_⟩
   rw [mem_put, h2, List.mem_append, List.mem_singleton]
   exact ⟨fun h => h.elim .inr .inl, fun h => h.elim .inr .inl⟩
theorem rising_setOf (l : List Nat) : rising (setOf l) := (setOf_both l).1
theorem mem_setOf (l : List Nat) (x : Nat) : x ∈ setOf l ↔ x ∈ l := (setOf_both l).2 x
theorem setOf_iff (l : List Nat) : setOf l = l ↔ rising l :=
 ⟨fun h => h ▸ rising_setOf l, fun h => rising_ext (rising_setOf l) h (mem_setOf l)⟩
end Go.Proofs.YtlhdjdnflpilbaaGreatDoor.Rise
namespace Go.Proofs.YtlhdjdnflpilbaaGreatDoor.Segm
open Rise
abbrev Piece := Int × List Nat
def putS (p : List Piece) (n : Nat) : List Piece := match p.getLast? with
 | some s => if s.1 = 2 ∧ s.2.length < 255 then p.dropLast ++ [(2, s.2 ++ [n])] else p ++ [(2, [n])]
 | none => [(2, [n])]
theorem putS_room {f : List Piece} {s : Piece} (n : Nat) (h1 : s.1 = 2) (h2 : s.2.length < 255) : putS (f ++ [s]) n = f ++ [(2, s.2 ++ [n])] := by
 unfold putS
 simp [h1, h2]
theorem putS_full {f : List Piece} {s : Piece} (n : Nat) (h : ¬ (s.1 = 2 ∧ s.2.length < 255)) : putS (f ++ [s]) n = f ++ [s] ++ [(2, [n])] := by
 unfold putS
 simp only [List.getLast?_append, List.getLast?_singleton, Option.some_or]
 rw [if_neg h]
theorem putS_len (p : List Piece) (n : Nat) : (putS p n).length ≤ p.length + 1 := by
 rcases List.eq_nil_or_concat p with rfl | ⟨f, s, rfl⟩
 ·simp [putS]
 ·rw [List.concat_eq_append]
  by_cases h : s.1 = 2 ∧ s.2.length < 255
  ·rw [putS_room n h.1 h.2]; simp
  ·rw [putS_full n h]; simp
def putsS (p : List Piece) (l : List Nat) : List Piece := l.foldl putS p
theorem putsS_nil (p : List Piece) : putsS p [] = p := rfl
theorem putsS_snoc (p : List Piece) (l : List Nat) (n : Nat) : putsS p (l ++ [n]) = putS (putsS p l) n := by unfold putsS; rw [List.foldl_append]; rfl
theorem putsS_len (p : List Piece) (l : List Nat) : (putsS p l).length ≤ p.length + l.length := by
 induction hn : l.length generalizing l with
 | zero => rw [List.length_eq_zero_iff.1 hn, putsS_nil]; simp
 | succ n ih =>
  rcases List.eq_nil_or_concat l with rfl | ⟨m, c, rfl⟩
  ·simp at hn
  ·rw [List.concat_eq_append] at *
   rw [putsS_snoc]
   have h1 := putS_len (putsS p m) c
   have h2 := ih m (by simpa using hn)
   have h3 : m.length = n := by simpa using hn
   omega
def normOne (p : List Piece) (s : Piece) : List Piece :=
 if s.1 = 2 then putsS p s.2 else if s.1 = 1 ∧ s.2 ≠ [] then p ++ [(1, setOf s.2)] else p
def normS (p : List Piece) : List Piece := p.foldl normOne []
theorem normS_nil : normS [] = [] := rfl
theorem normS_snoc (p : List Piece) (s : Piece) : normS (p ++ [s]) = normOne (normS p) s := by unfold normS; rw [List.foldl_append]; rfl
def bulk (p : List Piece) : Nat := (p.map fun s => s.2.length + 1).sum
theorem bulk_append (p q : List Piece) : bulk (p ++ q) = bulk p + bulk q := by simp [bulk]
theorem bulk_take {p : List Piece} {k : Nat} {s : Piece} (h : p[k]? = some s) : bulk (p.take (k + 1)) = bulk (p.take k) + (s.2.length + 1) := by
 rw [List.take_add_one, h, Option.toList_some, bulk_append]; simp [bulk]
theorem bulk_take_le (p : List Piece) (k : Nat) : bulk (p.take k) ≤ bulk p := by
 have h := bulk_append (p.take k) (p.drop k)
 rw [List.take_append_drop] at h
 omega
theorem normOne_len (p : List Piece) (s : Piece) : (normOne p s).length ≤ p.length + (s.2.length + 1) := by
 unfold normOne
 split
 ·have := putsS_len p s.2; omega
 ·split
  ·simp
  ·omega
theorem normS_len (p : List Piece) : (normS p).length ≤ bulk p := by
 induction hn : p.length generalizing p with
 | zero => rw [List.length_eq_zero_iff.1 hn]; simp [normS]
 | succ n ih =>
  rcases List.eq_nil_or_concat p with rfl | ⟨m, c, rfl⟩
  ·simp at hn
  ·rw [List.concat_eq_append] at *
   rw [normS_snoc, bulk_append]
   have h1 := normOne_len (normS m) c
   have h2 := ih m (by simpa using hn)
   simp [bulk] at h2 ⊢
   omega
theorem take_one {p : List Piece} {k : Nat} {s : Piece} (h : p[k]? = some s) : p.take (k + 1) = p.take k ++ [s] := by rw [List.take_add_one, h]; rfl
def FitS (m : Nat) (p : List Piece) : Prop := ∀ s ∈ p, s.2.length ≤ m
theorem FitS.append {m : Nat} {p q : List Piece} (h : FitS m p) (h2 : FitS m q) : FitS m (p ++ q) := fun s hs => (List.mem_append.1 hs).elim (h s) (h2 s)
end Go.Proofs.YtlhdjdnflpilbaaGreatDoor.Segm
namespace Go.Proofs.YtlhdjdnflpilbaaGreatDoor.Pfx
def bitN (a i : Nat) : Nat := a / 2 ^ (31 - i) % 2
def cutN (a n : Nat) : Nat := a / 2 ^ (32 - n) * 2 ^ (32 - n)
def maskN (n : Nat) : Nat := 4294967296 - 2 ^ (32 - n)
def clampN (n : Int) : Nat := if n < 0 then 0 else if 32 < n then 32 else n.toNat
theorem clampN_in (n : Nat) (h : n ≤ 32) : clampN (n : Int) = n := by unfold clampN; rw [if_neg (by omega), if_neg (by omega)]; omega
theorem pow_le (k : Nat) (h : k ≤ 32) : 2 ^ k ≤ 4294967296 := by
 have := Nat.pow_le_pow_right (show 0 < 2 by decide) h
 simpa using this
theorem pow_pos (k : Nat) : 0 < 2 ^ k := Nat.pow_pos (by decide)
theorem maskN_lt (n : Nat) : maskN n < 4294967296 := by unfold maskN; have := pow_pos (32 - n); omega
theorem cutN_le (a n : Nat) : cutN a n ≤ a := Nat.div_mul_le_self _ _
theorem bitN_lt (a i : Nat) : bitN a i < 2 := Nat.mod_lt _ (by decide)
theorem mask_shift (n : Nat) (h : n ≤ 32) : (4294967295 * 2 ^ (32 - n) % 4294967296 : Int) = (maskN n : Int) := by
 have hp := pow_le (32 - n) (by omega)
 have h0 := pow_pos (32 - n)
 unfold maskN
 have e2 : (4294967295 * 2 ^ (32 - n) : Int) = (4294967296 - (2 ^ (32 - n) : Nat)) + 4294967296 * (((2 ^ (32 - n) : Nat) : Int) - 1) := by push_cast; omega
 rw [e2, Int.add_mul_emod_self_left]
 rw [Int.emod_eq_of_lt (by omega) (by omega)]
 omega
theorem testBit_mask (n i : Nat) (h : n ≤ 32) : (maskN n).testBit i = (decide (i < 32) && decide (32 - n ≤ i)) := by
  unfold maskN
  have h0 := pow_pos (32 - n)
  have e : 4294967296 - 2 ^ (32 - n) = 2 ^ 32 - ((2 ^ (32 - n) - 1) + 1) := by
    have : (2 : Nat) ^ 32 = 4294967296 := by decide
    omega
  rw [e, Nat.testBit_two_pow_sub_succ (by have := pow_le (32 - n) (by omega); have : (2 : Nat) ^ 32 = 4294967296 := by decide
                                          omega), Nat.testBit_two_pow_sub_one]
  congr 1
  rw [← decide_not]
  exact decide_eq_decide.2 (by omega)
theorem testBit_cut (a n i : Nat) : (cutN a n).testBit i = (decide (32 - n ≤ i) && a.testBit i) := by
 unfold cutN
 rw [Nat.testBit_mul_two_pow]
 by_cases h : 32 - n ≤ i
 ·simp [h, Nat.testBit_div_two_pow, Nat.sub_add_cancel h]
 ·simp [h]
theorem testBit_lt {a i : Nat} (h : a < 4294967296) (hi : a.testBit i = true) : i < 32 := by
 rcases Nat.lt_or_ge i 32 with h1 | h1
 ·exact h1
 ·rw [Nat.testBit_lt_two_pow (Nat.lt_of_lt_of_le (show a < 2 ^ 32 from h) (Nat.pow_le_pow_right (by decide) h1))] at hi; cases hi
theorem and_mask (a n : Nat) (ha : a < 4294967296) (hn : n ≤ 32) : a &&& maskN n = cutN a n := by
 apply Nat.eq_of_testBit_eq
 intro i
 rw [Nat.testBit_and, testBit_mask n i hn, testBit_cut]
 by_cases hi : i < 32
 ·simp [hi, Bool.and_comm]
 ·have : a.testBit i = false := by
   cases h : a.testBit i
   ·rfl
   ·exact absurd (testBit_lt ha h) hi
  simp [this]
theorem andNot_mask (a n : Nat) (hn : n ≤ 32) : a &&& (4294967295 - maskN n) = a % 2 ^ (32 - n) := by
 have e : 4294967295 - maskN n = 2 ^ (32 - n) - 1 := by
  unfold maskN
  have := pow_le (32 - n) (by omega)
  have := pow_pos (32 - n)
  omega
 rw [e, Nat.and_two_pow_sub_one_eq_mod]
theorem bits_and_mask (a n : Nat) (ha : a < 4294967296) (hn : n ≤ 32) : bits .and .u32 (a : Int) (maskN n : Int) = (cutN a n : Int) := by
 rw [u32_and_nat a (maskN n) ha (maskN_lt n), and_mask a n ha hn]
theorem bits_andNot_mask (a n : Nat) (ha : a < 4294967296) (hn : n ≤ 32) : bits .andNot .u32 (a : Int) (maskN n : Int) = ((a % 2 ^ (32 - n) : Nat) : Int) := by
 rw [u32_andNot_nat a (maskN n) ha (maskN_lt n), andNot_mask a n hn]
theorem cut_iff_mod (a n : Nat) : cutN a n = a ↔ a % 2 ^ (32 - n) = 0 := by
 unfold cutN
 have := Nat.div_add_mod a (2 ^ (32 - n))
 rw [Nat.mul_comm] at this
 omega
def outN (a n k : Nat) : Nat := if k ≤ n then a / 2 ^ (32 - k) else a / 2 ^ (32 - n) * 2 ^ (k - n)
theorem outN_0 (a n : Nat) (h : a < 4294967296) : outN a n 0 = 0 := by unfold outN; rw [if_pos (by omega)]; exact Nat.div_eq_of_lt (by simpa using h)
theorem outN_32 (a n : Nat) (h : n ≤ 32) : outN a n 32 = cutN a n := by
 unfold outN cutN
 split
 ·have : n = 32 := by omega
  subst this; simp
 ·rfl
theorem outN_hit (a n k : Nat) (hk : k < 32) (hkn : k < n) : outN a n (k + 1) = outN a n k * 2 + bitN a k := by
 unfold outN bitN
 rw [if_pos (by omega), if_pos (by omega)]
 have e : 32 - k = (32 - (k + 1)) + 1 := by omega
 rw [e, Nat.pow_succ, ← Nat.div_div_eq_div_mul]
 have : 31 - k = 32 - (k + 1) := by omega
 rw [this]
 omega
theorem outN_miss (a n k : Nat) (hkn : n ≤ k) : outN a n (k + 1) = outN a n k * 2 := by
 unfold outN
 rw [if_neg (by omega)]
 have e : k + 1 - n = (k - n) + 1 := by omega
 split
 ·have : k = n := by omega
  subst this
  simp
 ·rw [e, Nat.pow_succ, Nat.mul_assoc]
theorem outN_lt (a n k : Nat) (hk : k ≤ 32) : outN a n k * 2 ^ (32 - k) ≤ a := by
 unfold outN
 split
 ·exact Nat.div_mul_le_self _ _
 ·rw [Nat.mul_assoc, ← Nat.pow_add, show k - n + (32 - k) = 32 - n by omega]; exact Nat.div_mul_le_self _ _
theorem outN_room (a n k : Nat) (h : a < 4294967296) (hk : k < 32) : outN a n k * 2 + 1 < 4294967296 := by
 have h1 := outN_lt a n k (by omega)
 have e : 32 - k = (31 - k) + 1 := by omega
 rw [e, Nat.pow_succ] at h1
 have h2 := pow_pos (31 - k)
 have h3 : outN a n k * 2 * 1 ≤ outN a n k * 2 * 2 ^ (31 - k) := Nat.mul_le_mul_left _ h2
 have h4 : outN a n k * 2 * 2 ^ (31 - k) ≤ a := by rw [Nat.mul_assoc, Nat.mul_comm 2]; exact h1
 omega
theorem div_step (a j : Nat) : a / 2 ^ j / 2 = a / 2 ^ (j + 1) := by rw [Nat.pow_succ, Nat.div_div_eq_div_mul]
end Go.Proofs.YtlhdjdnflpilbaaGreatDoor.Pfx
namespace Go.Proofs.YtlhdjdnflpilbaaGreatDoor.Segm
open Rise
def cutN (l : List Nat) : Nat := (l.length + 254) / 255
def cut255 (l : List Nat) (j : Nat) : List Nat := (l.drop (255 * j)).take 255
def cuts (k : Int) (l : List Nat) : List Piece := (List.range (cutN l)).map fun j => (k, cut255 l j)
theorem cuts_nil (k : Int) : cuts k [] = [] := rfl
theorem cut_zero (l : List Nat) : cut255 l 0 = l.take 255 := by simp [cut255]
theorem cut_succ (l : List Nat) (j : Nat) : cut255 l (j + 1) = cut255 (l.drop 255) j := by unfold cut255; rw [List.drop_drop, show 255 * (j + 1) = 255 + 255 * j by omega]
theorem cutN_succ {l : List Nat} (h : l ≠ []) : cutN l = cutN (l.drop 255) + 1 := by
 have := List.length_pos_iff.2 h
 unfold cutN
 rw [List.length_drop]
 omega
theorem cuts_more (k : Int) {l : List Nat} (h : l ≠ []) : cuts k l = (k, l.take 255) :: cuts k (l.drop 255) := by
 unfold cuts
 rw [cutN_succ h, List.range_succ_eq_map, List.map_cons, cut_zero, List.map_map]
 congr 1
 apply List.map_congr_left
 intro j _
 simp only [Function.comp, cut_succ]
theorem cut_le (l : List Nat) (j : Nat) : (cut255 l j).length ≤ 255 := by unfold cut255; exact List.length_take_le 255 _
theorem cut_len {l : List Nat} {j : Nat} (h : j < cutN l) : (cut255 l j).length = min 255 (l.length - 255 * j) ∧ 255 * j < l.length := by
 unfold cut255 cutN at *
 refine ⟨by simp, by omega⟩
def Closed (d : List Piece) : Prop := ∀ s, d.getLast? = some s → ¬ (s.1 = 2 ∧ s.2.length < 255)
theorem closed_nil : Closed [] := fun s h => by simp at h
theorem closed_set (d : List Piece) (l : List Nat) : Closed (d ++ [(1, l)]) := fun s h => by
 simp at h
 subst h
 simp
theorem put_closed {d : List Piece} (h : Closed d) (n : Nat) : putS d n = d ++ [(2, [n])] := by
 rcases List.eq_nil_or_concat d with rfl | ⟨f, s, rfl⟩
 ·rfl
 ·rw [List.concat_eq_append] at *
  exact putS_full n (h s (by simp))
theorem puts_short {d : List Piece} (h : Closed d) : ∀ (n : Nat) (l : List Nat), l.length = n → n ≤ 255 → l ≠ [] → putsS d l = d ++ [(2, l)]
 | 0, l, hl, _, h0 => absurd (List.length_eq_zero_iff.1 hl) h0
 | n + 1, l, hl, hn, h0 => by
  rcases List.eq_nil_or_concat l with rfl | ⟨m, c, rfl⟩
  ·exact absurd rfl h0
  ·rw [List.concat_eq_append] at *
   rw [putsS_snoc]
   have hm : m.length = n := by simpa using hl
   by_cases hm0 : m = []
   ·rw [hm0, putsS_nil]; exact put_closed h c
   ·rw [puts_short h n m hm (by omega) hm0]
    exact putS_room c rfl (by show m.length < 255; omega)
theorem putsS_append (d : List Piece) (a b : List Nat) : putsS d (a ++ b) = putsS (putsS d a) b := by unfold putsS; rw [List.foldl_append]
theorem take_ne {l : List Nat} (h : 255 < l.length) : l.take 255 ≠ [] := fun e => by
 have h2 := List.length_take (i := 255) (l := l)
 rw [e, List.length_nil] at h2
 omega
theorem puts_cuts : ∀ (f : Nat) (d : List Piece) (l : List Nat), l.length ≤ f → Closed d → putsS d l = d ++ cuts 2 l
 | 0, d, l, h, _ => by rw [List.length_eq_zero_iff.1 (Nat.le_zero.1 h)]; simp [putsS_nil, cuts_nil]
 | f + 1, d, l, h, hc => by
  by_cases h0 : l = []
  ·rw [h0]; simp [putsS_nil, cuts_nil]
  ·have hp := List.length_pos_iff.2 h0
   rw [cuts_more 2 h0]
   by_cases h1 : 255 < l.length
   ·conv => lhs; rw [← List.take_append_drop 255 l]
    rw [putsS_append, puts_short hc _ (l.take 255) rfl (List.length_take_le 255 l) (take_ne h1)]
    rw [puts_cuts f _ (l.drop 255) (by simp; omega) (fun s hs => by
     simp at hs
     subst hs
     simp; omega)]
    simp
   ·rw [puts_short hc _ l rfl (by omega) h0, List.drop_of_length_le (by omega), cuts_nil, List.take_of_length_le (by omega)]
theorem puts_run {d : List Piece} (l : List Nat) (h : Closed d) : putsS d l = d ++ cuts 2 l := puts_cuts _ d l (Nat.le_refl _) h
theorem norm_seq {d : List Piece} {r : List Nat} {m : List Piece} {s : Piece} (h : putsS d r = normS m) (hs : s.1 = 2) : putsS d (r ++ s.2) = normS (m ++ [s]) := by
 rw [normS_snoc, putsS_append, h, normOne, if_pos hs]
theorem norm_set {d : List Piece} {r : List Nat} {m : List Piece} {s : Piece} (hd : Closed d) (h : putsS d r = normS m) (hs : s.1 = 1) (h0 : s.2 ≠ []) : putsS (d ++ cuts 2 r ++ [(1, setOf s.2)]) [] = normS (m ++ [s]) := by
 rw [normS_snoc, ← h, normOne, if_neg (by rw [hs]; decide), if_pos ⟨hs, h0⟩, puts_run r hd, putsS_nil]
theorem norm_drop {d : List Piece} {r : List Nat} {m : List Piece} {s : Piece} (h : putsS d r = normS m) (h2 : ¬ s.1 = 2) (h1 : ¬ (s.1 = 1 ∧ s.2 ≠ [])) : putsS d r = normS (m ++ [s]) := by
 rw [normS_snoc, normOne, if_neg h2, if_neg h1, h]
theorem norm_end {d : List Piece} {r : List Nat} {m : List Piece} (hd : Closed d) (h : putsS d r = normS m) : d ++ cuts 2 r = normS m := by rw [← h, puts_run r hd]
end Go.Proofs.YtlhdjdnflpilbaaGreatDoor.Segm
