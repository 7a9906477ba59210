/- AsnTexts: the law's walk: the text of any numbers, and which texts are some's. -/
import Derived.Test.YtjmakafpgfefnaaDoorParseWalk
import Derived.Test.YtjmakafpgfefnaaDoorSetSame
import Derived.Test.YtjmakafpgfefnaaDoorAsnLives
namespace Go.Proofs.YtjmakafpgfefnaaDoor.Nums
open Go.RowKit Mem Pfx Dec

theorem few_allT (v : Value) (l : List Nat) (k : Nat) (w : World) (hv : U32s w v l) (hk : k ≤ 1000) (hl : l.length ≤ k) :
    Calls Tryd.prog 6 #[v, .int .i64 k] w (Gives32 23 l w) := by
  have := few_any v l k w hv hk
  rwa [List.take_of_length_le hl] at this
theorem same_trueT (va vb : Value) (a : List Nat) (w : World) (ha : U32s w va a) (hb : U32s w vb a) :
    Calls Tryd.prog 9 #[va, vb] w (Tells (.bool true) w) := by
  have := refSame_any va vb a a w ha hb
  rwa [decide_eq_true rfl] at this
theorem len_textP {l : List Nat} (k : Nat) (hk : k ≤ l.length) : k ≤ (textP l k).length := by
  induction k with
  | zero => omega
  | succ k ih =>
    have hx := List.getElem?_eq_getElem (show k < l.length by omega)
    have hd := List.length_pos_iff.2 (dec_ne l[k])
    by_cases h0 : 0 < k
    · rw [textP_succ h0 hx]
      have := ih (by omega)
      simp; omega
    · obtain rfl : k = 0 := by omega
      rw [textP_one hx]; omega
theorem len_textL (l : List Nat) : l.length ≤ (textL l).length := by
  by_cases h : l = []
  · rw [h]; simp
  · rw [← textP_all h]; exact len_textP _ (Nat.le_refl _)
theorem lenT {l : List Nat} (h : ∀ n ∈ l, n < 4294967296) : (textL l).length ≤ 11 * l.length + 1 := by
  by_cases h0 : l = []
  · rw [h0]; simp [textL]
  · rw [← textP_all h0]
    have := textP_len h l.length (Nat.le_refl _)
    omega
/-- The text that the law goes on with: of a long one its first signs. -/
theorem pieceT (s : ByteArray) (N : Nat) : ∃ l : List UInt8, l.length ≤ N ∧ ((s.size ≤ N ∧ s = strOf l) ∨ (N < s.size ∧ s.extract 0 N = strOf l)) := by
  by_cases h : s.size ≤ N
  · exact ⟨s.data.toList, by simpa using h, .inl ⟨h, by unfold strOf; simp⟩⟩
  · refine ⟨s.data.toList.take N, by simp; omega, .inr ⟨by omega, ?_⟩⟩
    have := Lib.extract_data s 0 N
    apply ByteArray.ext
    apply Array.ext'
    rw [this]
    simp [strOf]

def Parts (l : List Nat) (w : World) (e : Ending) (w' : World) : Prop := ∃ A c, e = .returned (.tuple #[.slice A l.length c, .int .i64 0]) ∧ U32s w' (.slice A l.length c) l ∧ Below w.heap.size w w'
theorem parse_some (s : List UInt8) (l : List Nat) (w : World) (hlen : s.length ≤ 1000000) (hv : ErrVars w) (h : readL 4294967295 s = some l) : Calls Tryd.prog 24 #[.string (strOf s)] w (Parts l w) := by
  have c := parse_any s w hlen hv
  rw [h] at c
  exact c.mono fun e w' ⟨⟨A, k, he, hu⟩, hb⟩ => ⟨A, k, he, hu, hb⟩
theorem parse_none (s : List UInt8) (w : World) (hlen : s.length ≤ 1000000) (hv : ErrVars w) (h : readL 4294967295 s = none) : Calls Tryd.prog 24 #[.string (strOf s)] w (Tells (.tuple #[.slice none 0 0, .int .i64 2]) w) := by
  have c := parse_any s w hlen hv
  rw [h] at c
  exact c

set_option maxRecDepth 100000 in
set_option maxHeartbeats 2000000 in
theorem texts_none_short (va : Value) (l l1 : List Nat) (S T : ByteArray) (w : World) (hl0 : U32s w va l) (hv : ErrVars w) (hT : TabOr l1 w) (hs : S.size ≤ 100)
    (ll : l1.length ≤ 20) (BL : Hid (∀ n ∈ l1, n < 4294967296)) (CF : Hid (∀ (W : World), U32s W va l → Calls Tryd.prog 6 #[va, .int .i64 20] W (Gives32 23 l1 W)))
    (CT : Hid (∀ v (W : World), U32s W v l1 → TabOr l1 W → Calls Tryd.prog 23 #[v] W (Tells (.string T) W))) (CP : Hid (∀ W : World, ErrVars W → Calls Tryd.prog 24 #[.string T] W (Parts l1 W)))
    (CR : Hid (∀ v (W : World), U32s W v l1 → Calls Tryd.prog 25 #[v] W fun e w' => e = .returned (.string T) ∧ W = w')) (HP : Hid (∀ W : World, ErrVars W → Calls Tryd.prog 24 #[.string S] W (Tells (.tuple #[.slice none 0 0, .int .i64 2]) W))) (h1 : (S.toList == T.toList) = false) :
    Calls Tryd.prog 5 #[va, .string S] w (Tells (.bool true) w) := by
  have CL := Go.Lib.hid lives_any
  have CS := Go.Lib.hid same_trueT
  have CA := Go.Lib.hid few_allT
  have k100 : ¬ (100 : Int) < (S.size : Int) := by omega
  have CF' := Go.Lib.hid (CF.out _ hl0)
  obtain ⟨Al, cl, rfl, -, -, -⟩ := hl0.open_
  clear CF hl0
  have HB := Go.Lib.hid (Below.refl w.heap.size w)
  go_enter Tryd.func5, Tryd.ntmps5
  go_wp2_with fail
  refine (CF'.out).mono ?_
  rintro e w1 ⟨v1, rfl, o1, hb1⟩
  have hl := U32s.of_own o1 (BL.out)
  obtain ⟨A1, c1, rfl, -, -, -⟩ := hl.open_
  replace hv := hv.keep hb1
  replace hT := hT.keep hb1
  replace HB := Go.Lib.hid (Below.tr HB.out hb1)
  clear hb1
  go_wp2_with fail
  refine (CA.out _ l1 20 _ hl (by omega) ll).mono ?_
  rintro e w2 ⟨v2, rfl, o2, hb2⟩
  have f2 := U32s.of_own o2 (BL.out)
  obtain ⟨A2, c2, rfl, -, -, -⟩ := f2.open_
  replace hv := hv.keep hb2
  replace hT := hT.keep hb2
  replace hl := hl.keep hb2
  replace HB := Go.Lib.hid (Below.tr HB.out hb2)
  clear hb2
  go_wp2_with fail
  refine (CT.out _ _ f2 hT).mono ?_
  rintro e w3 ⟨rfl, hb3⟩
  replace hv := hv.keep hb3
  replace hT := hT.keep hb3
  replace hl := hl.keep hb3
  replace f2 := f2.keep hb3
  replace HB := Go.Lib.hid (Below.tr HB.out hb3)
  clear hb3
  clear f2
  go_wp2_with fail
  refine (CP.out _ hv).mono ?_
  rintro e w4 ⟨A4, c4, rfl, hx1, hb4⟩
  replace hv := hv.keep hb4
  replace hT := hT.keep hb4
  replace hl := hl.keep hb4
  replace HB := Go.Lib.hid (Below.tr HB.out hb4)
  clear hb4
  go_wp2_with fail
  refine (HP.out _ hv).mono ?_
  rintro e w5 ⟨rfl, hb5⟩
  replace hv := hv.keep hb5
  replace hT := hT.keep hb5
  replace hl := hl.keep hb5
  replace hx1 := hx1.keep hb5
  replace HB := Go.Lib.hid (Below.tr HB.out hb5)
  clear hb5
  go_wp2_with fail
  refine (CR.out _ _ hl).mono ?_
  rintro e w6 ⟨rfl, rfl⟩
  go_wp2_with fail
  refine (CS.out _ _ l1 _ hx1 hl).mono ?_
  rintro e w7 ⟨rfl, hb7⟩
  replace hv := hv.keep hb7
  replace hT := hT.keep hb7
  replace hl := hl.keep hb7
  replace hx1 := hx1.keep hb7
  replace HB := Go.Lib.hid (Below.tr HB.out hb7)
  clear hb7
  go_wp2_with fail
  refine (CR.out _ _ hl).mono ?_
  rintro e w8 ⟨rfl, rfl⟩
  go_wp2_with fail
  refine (CL.out _).mono ?_
  rintro e w9 ⟨rfl, hb9⟩
  replace hv := hv.keep hb9
  replace hT := hT.keep hb9
  replace hl := hl.keep hb9
  replace hx1 := hx1.keep hb9
  replace HB := Go.Lib.hid (Below.tr HB.out hb9)
  clear hb9
  go_wp2
  go_ret
  exact ⟨rfl, HB.out⟩

set_option maxRecDepth 100000 in
set_option maxHeartbeats 2000000 in
theorem texts_none_long (va : Value) (l l1 : List Nat) (s S T : ByteArray) (w : World) (hl0 : U32s w va l) (hv : ErrVars w) (hT : TabOr l1 w) (hs : 100 < s.size) (hx : s.extract 0 100 = S)
    (ll : l1.length ≤ 20) (BL : Hid (∀ n ∈ l1, n < 4294967296)) (CF : Hid (∀ (W : World), U32s W va l → Calls Tryd.prog 6 #[va, .int .i64 20] W (Gives32 23 l1 W)))
    (CT : Hid (∀ v (W : World), U32s W v l1 → TabOr l1 W → Calls Tryd.prog 23 #[v] W (Tells (.string T) W))) (CP : Hid (∀ W : World, ErrVars W → Calls Tryd.prog 24 #[.string T] W (Parts l1 W)))
    (CR : Hid (∀ v (W : World), U32s W v l1 → Calls Tryd.prog 25 #[v] W fun e w' => e = .returned (.string T) ∧ W = w')) (HP : Hid (∀ W : World, ErrVars W → Calls Tryd.prog 24 #[.string S] W (Tells (.tuple #[.slice none 0 0, .int .i64 2]) W))) (h1 : (S.toList == T.toList) = false) :
    Calls Tryd.prog 5 #[va, .string s] w (Tells (.bool true) w) := by
  have CL := Go.Lib.hid lives_any
  have CS := Go.Lib.hid same_trueT
  have CA := Go.Lib.hid few_allT
  have k100 : (100 : Int) < (s.size : Int) := by omega
  have CF' := Go.Lib.hid (CF.out _ hl0)
  obtain ⟨Al, cl, rfl, -, -, -⟩ := hl0.open_
  clear CF hl0
  have HB := Go.Lib.hid (Below.refl w.heap.size w)
  go_enter Tryd.func5, Tryd.ntmps5
  go_wp2_with fail
  refine (CF'.out).mono ?_
  rintro e w1 ⟨v1, rfl, o1, hb1⟩
  have hl := U32s.of_own o1 (BL.out)
  obtain ⟨A1, c1, rfl, -, -, -⟩ := hl.open_
  replace hv := hv.keep hb1
  replace hT := hT.keep hb1
  replace HB := Go.Lib.hid (Below.tr HB.out hb1)
  clear hb1
  go_wp2_with fail
  refine (CA.out _ l1 20 _ hl (by omega) ll).mono ?_
  rintro e w2 ⟨v2, rfl, o2, hb2⟩
  have f2 := U32s.of_own o2 (BL.out)
  obtain ⟨A2, c2, rfl, -, -, -⟩ := f2.open_
  replace hv := hv.keep hb2
  replace hT := hT.keep hb2
  replace hl := hl.keep hb2
  replace HB := Go.Lib.hid (Below.tr HB.out hb2)
  clear hb2
  go_wp2_with fail
  refine (CT.out _ _ f2 hT).mono ?_
  rintro e w3 ⟨rfl, hb3⟩
  replace hv := hv.keep hb3
  replace hT := hT.keep hb3
  replace hl := hl.keep hb3
  replace f2 := f2.keep hb3
  replace HB := Go.Lib.hid (Below.tr HB.out hb3)
  clear hb3
  clear f2
  go_wp2_with fail
  refine (CP.out _ hv).mono ?_
  rintro e w4 ⟨A4, c4, rfl, hx1, hb4⟩
  replace hv := hv.keep hb4
  replace hT := hT.keep hb4
  replace hl := hl.keep hb4
  replace HB := Go.Lib.hid (Below.tr HB.out hb4)
  clear hb4
  go_wp2_with fail
  refine (HP.out _ hv).mono ?_
  rintro e w5 ⟨rfl, hb5⟩
  replace hv := hv.keep hb5
  replace hT := hT.keep hb5
  replace hl := hl.keep hb5
  replace hx1 := hx1.keep hb5
  replace HB := Go.Lib.hid (Below.tr HB.out hb5)
  clear hb5
  go_wp2_with fail
  refine (CR.out _ _ hl).mono ?_
  rintro e w6 ⟨rfl, rfl⟩
  go_wp2_with fail
  refine (CS.out _ _ l1 _ hx1 hl).mono ?_
  rintro e w7 ⟨rfl, hb7⟩
  replace hv := hv.keep hb7
  replace hT := hT.keep hb7
  replace hl := hl.keep hb7
  replace hx1 := hx1.keep hb7
  replace HB := Go.Lib.hid (Below.tr HB.out hb7)
  clear hb7
  go_wp2_with fail
  refine (CR.out _ _ hl).mono ?_
  rintro e w8 ⟨rfl, rfl⟩
  go_wp2_with fail
  refine (CL.out _).mono ?_
  rintro e w9 ⟨rfl, hb9⟩
  replace hv := hv.keep hb9
  replace hT := hT.keep hb9
  replace hl := hl.keep hb9
  replace hx1 := hx1.keep hb9
  replace HB := Go.Lib.hid (Below.tr HB.out hb9)
  clear hb9
  go_wp2
  go_ret
  exact ⟨rfl, HB.out⟩

set_option maxRecDepth 100000 in
set_option maxHeartbeats 2000000 in
theorem texts_some_short (va : Value) (l l1 : List Nat) (K : List Nat) (S T : ByteArray) (w : World) (hl0 : U32s w va l) (hv : ErrVars w) (hT : TabOr l1 w) (hs : S.size ≤ 100)
    (ll : l1.length ≤ 20) (BL : Hid (∀ n ∈ l1, n < 4294967296)) (CF : Hid (∀ (W : World), U32s W va l → Calls Tryd.prog 6 #[va, .int .i64 20] W (Gives32 23 l1 W)))
    (CT : Hid (∀ v (W : World), U32s W v l1 → TabOr l1 W → Calls Tryd.prog 23 #[v] W (Tells (.string T) W))) (CP : Hid (∀ W : World, ErrVars W → Calls Tryd.prog 24 #[.string T] W (Parts l1 W)))
    (CR : Hid (∀ v (W : World), U32s W v l1 → Calls Tryd.prog 25 #[v] W fun e w' => e = .returned (.string T) ∧ W = w')) (HP : Hid (∀ W : World, ErrVars W → Calls Tryd.prog 24 #[.string S] W (Parts K W))) (HK : Hid (∀ v (W : World), U32s W v K → Calls Tryd.prog 25 #[v] W fun e w' => e = .returned (.string S) ∧ W = w')) :
    Calls Tryd.prog 5 #[va, .string S] w (Tells (.bool true) w) := by
  have CL := Go.Lib.hid lives_any
  have CS := Go.Lib.hid same_trueT
  have CA := Go.Lib.hid few_allT
  have k100 : ¬ (100 : Int) < (S.size : Int) := by omega
  have CF' := Go.Lib.hid (CF.out _ hl0)
  obtain ⟨Al, cl, rfl, -, -, -⟩ := hl0.open_
  clear CF hl0
  have HB := Go.Lib.hid (Below.refl w.heap.size w)
  go_enter Tryd.func5, Tryd.ntmps5
  go_wp2_with fail
  refine (CF'.out).mono ?_
  rintro e w1 ⟨v1, rfl, o1, hb1⟩
  have hl := U32s.of_own o1 (BL.out)
  obtain ⟨A1, c1, rfl, -, -, -⟩ := hl.open_
  replace hv := hv.keep hb1
  replace hT := hT.keep hb1
  replace HB := Go.Lib.hid (Below.tr HB.out hb1)
  clear hb1
  go_wp2_with fail
  refine (CA.out _ l1 20 _ hl (by omega) ll).mono ?_
  rintro e w2 ⟨v2, rfl, o2, hb2⟩
  have f2 := U32s.of_own o2 (BL.out)
  obtain ⟨A2, c2, rfl, -, -, -⟩ := f2.open_
  replace hv := hv.keep hb2
  replace hT := hT.keep hb2
  replace hl := hl.keep hb2
  replace HB := Go.Lib.hid (Below.tr HB.out hb2)
  clear hb2
  go_wp2_with fail
  refine (CT.out _ _ f2 hT).mono ?_
  rintro e w3 ⟨rfl, hb3⟩
  replace hv := hv.keep hb3
  replace hT := hT.keep hb3
  replace hl := hl.keep hb3
  replace f2 := f2.keep hb3
  replace HB := Go.Lib.hid (Below.tr HB.out hb3)
  clear hb3
  clear f2
  go_wp2_with fail
  refine (CP.out _ hv).mono ?_
  rintro e w4 ⟨A4, c4, rfl, hx1, hb4⟩
  replace hv := hv.keep hb4
  replace hT := hT.keep hb4
  replace hl := hl.keep hb4
  replace HB := Go.Lib.hid (Below.tr HB.out hb4)
  clear hb4
  go_wp2_with fail
  refine (HP.out _ hv).mono ?_
  rintro e w5 ⟨A5, c5, rfl, hy, hb5⟩
  replace hv := hv.keep hb5
  replace hT := hT.keep hb5
  replace hl := hl.keep hb5
  replace hx1 := hx1.keep hb5
  replace HB := Go.Lib.hid (Below.tr HB.out hb5)
  clear hb5
  go_wp2_with fail
  refine (CR.out _ _ hl).mono ?_
  rintro e w6 ⟨rfl, rfl⟩
  go_wp2_with fail
  refine (CS.out _ _ l1 _ hx1 hl).mono ?_
  rintro e w7 ⟨rfl, hb7⟩
  replace hv := hv.keep hb7
  replace hT := hT.keep hb7
  replace hl := hl.keep hb7
  replace hx1 := hx1.keep hb7
  replace hy := hy.keep hb7
  replace HB := Go.Lib.hid (Below.tr HB.out hb7)
  clear hb7
  go_wp2_with fail
  refine (HK.out _ _ hy).mono ?_
  rintro e w8 ⟨rfl, rfl⟩
  go_wp2_with fail
  refine (CL.out _).mono ?_
  rintro e w9 ⟨rfl, hb9⟩
  replace hv := hv.keep hb9
  replace hT := hT.keep hb9
  replace hl := hl.keep hb9
  replace hx1 := hx1.keep hb9
  replace hy := hy.keep hb9
  replace HB := Go.Lib.hid (Below.tr HB.out hb9)
  clear hb9
  go_wp2
  go_ret
  exact ⟨rfl, HB.out⟩

set_option maxRecDepth 100000 in
set_option maxHeartbeats 2000000 in
theorem texts_some_long (va : Value) (l l1 : List Nat) (K : List Nat) (s S T : ByteArray) (w : World) (hl0 : U32s w va l) (hv : ErrVars w) (hT : TabOr l1 w) (hs : 100 < s.size) (hx : s.extract 0 100 = S)
    (ll : l1.length ≤ 20) (BL : Hid (∀ n ∈ l1, n < 4294967296)) (CF : Hid (∀ (W : World), U32s W va l → Calls Tryd.prog 6 #[va, .int .i64 20] W (Gives32 23 l1 W)))
    (CT : Hid (∀ v (W : World), U32s W v l1 → TabOr l1 W → Calls Tryd.prog 23 #[v] W (Tells (.string T) W))) (CP : Hid (∀ W : World, ErrVars W → Calls Tryd.prog 24 #[.string T] W (Parts l1 W)))
    (CR : Hid (∀ v (W : World), U32s W v l1 → Calls Tryd.prog 25 #[v] W fun e w' => e = .returned (.string T) ∧ W = w')) (HP : Hid (∀ W : World, ErrVars W → Calls Tryd.prog 24 #[.string S] W (Parts K W))) (HK : Hid (∀ v (W : World), U32s W v K → Calls Tryd.prog 25 #[v] W fun e w' => e = .returned (.string S) ∧ W = w')) :
    Calls Tryd.prog 5 #[va, .string s] w (Tells (.bool true) w) := by
  have CL := Go.Lib.hid lives_any
  have CS := Go.Lib.hid same_trueT
  have CA := Go.Lib.hid few_allT
  have k100 : (100 : Int) < (s.size : Int) := by omega
  have CF' := Go.Lib.hid (CF.out _ hl0)
  obtain ⟨Al, cl, rfl, -, -, -⟩ := hl0.open_
  clear CF hl0
  have HB := Go.Lib.hid (Below.refl w.heap.size w)
  go_enter Tryd.func5, Tryd.ntmps5
  go_wp2_with fail
  refine (CF'.out).mono ?_
  rintro e w1 ⟨v1, rfl, o1, hb1⟩
  have hl := U32s.of_own o1 (BL.out)
  obtain ⟨A1, c1, rfl, -, -, -⟩ := hl.open_
  replace hv := hv.keep hb1
  replace hT := hT.keep hb1
  replace HB := Go.Lib.hid (Below.tr HB.out hb1)
  clear hb1
  go_wp2_with fail
  refine (CA.out _ l1 20 _ hl (by omega) ll).mono ?_
  rintro e w2 ⟨v2, rfl, o2, hb2⟩
  have f2 := U32s.of_own o2 (BL.out)
  obtain ⟨A2, c2, rfl, -, -, -⟩ := f2.open_
  replace hv := hv.keep hb2
  replace hT := hT.keep hb2
  replace hl := hl.keep hb2
  replace HB := Go.Lib.hid (Below.tr HB.out hb2)
  clear hb2
  go_wp2_with fail
  refine (CT.out _ _ f2 hT).mono ?_
  rintro e w3 ⟨rfl, hb3⟩
  replace hv := hv.keep hb3
  replace hT := hT.keep hb3
  replace hl := hl.keep hb3
  replace f2 := f2.keep hb3
  replace HB := Go.Lib.hid (Below.tr HB.out hb3)
  clear hb3
  clear f2
  go_wp2_with fail
  refine (CP.out _ hv).mono ?_
  rintro e w4 ⟨A4, c4, rfl, hx1, hb4⟩
  replace hv := hv.keep hb4
  replace hT := hT.keep hb4
  replace hl := hl.keep hb4
  replace HB := Go.Lib.hid (Below.tr HB.out hb4)
  clear hb4
  go_wp2_with fail
  refine (HP.out _ hv).mono ?_
  rintro e w5 ⟨A5, c5, rfl, hy, hb5⟩
  replace hv := hv.keep hb5
  replace hT := hT.keep hb5
  replace hl := hl.keep hb5
  replace hx1 := hx1.keep hb5
  replace HB := Go.Lib.hid (Below.tr HB.out hb5)
  clear hb5
  go_wp2_with fail
  refine (CR.out _ _ hl).mono ?_
  rintro e w6 ⟨rfl, rfl⟩
  go_wp2_with fail
  refine (CS.out _ _ l1 _ hx1 hl).mono ?_
  rintro e w7 ⟨rfl, hb7⟩
  replace hv := hv.keep hb7
  replace hT := hT.keep hb7
  replace hl := hl.keep hb7
  replace hx1 := hx1.keep hb7
  replace hy := hy.keep hb7
  replace HB := Go.Lib.hid (Below.tr HB.out hb7)
  clear hb7
  go_wp2_with fail
  refine (HK.out _ _ hy).mono ?_
  rintro e w8 ⟨rfl, rfl⟩
  go_wp2_with fail
  refine (CL.out _).mono ?_
  rintro e w9 ⟨rfl, hb9⟩
  replace hv := hv.keep hb9
  replace hT := hT.keep hb9
  replace hl := hl.keep hb9
  replace hx1 := hx1.keep hb9
  replace hy := hy.keep hb9
  replace HB := Go.Lib.hid (Below.tr HB.out hb9)
  clear hb9
  go_wp2
  go_ret
  exact ⟨rfl, HB.out⟩

theorem textsLaw_walk (va : Value) (l : List Nat) (s : ByteArray) (w : World) (hl0 : U32s w va l) (hv : ErrVars w) (hT : Lib.TabIs Tryd.prog w "internal/strconv.uint64pow10" .u64 Lib.pow10Tab) :
    Calls Tryd.prog 5 #[va, .string s] w (Tells (.bool true) w) := by
  have CF := Go.Lib.hid (fun (W : World) (h : U32s W va l) => few_any va l 20 W h (by omega))
  have bl : ∀ n ∈ l.take 20, n < 4294967296 := fun n hn => hl0.2 n (List.mem_of_mem_take hn)
  have ll : (l.take 20).length ≤ 20 := List.length_take_le 20 l
  generalize l.take 20 = l1 at CF bl ll
  have lt := lenT bl
  have hr : readL 4294967295 (textL l1) = some l1 := read_text fun n hn => by have := bl n hn; omega
  have CT := Go.Lib.hid (fun v (W : World) (h1 : U32s W v l1) (h2 : TabOr l1 W) => text_any v l1 W h1 (by omega) h2)
  have CP := Go.Lib.hid (fun (W : World) (h : ErrVars W) => parse_some (textL l1) l1 W (by omega) h hr)
  have CR := Go.Lib.hid (fun v (W : World) (h : U32s W v l1) => refText_any v l1 W h (by omega))
  obtain ⟨p, hp, hs⟩ := pieceT s 100
  cases hrp : readL 4294967295 p with
  | none =>
    have HP := Go.Lib.hid (fun (W : World) (h : ErrVars W) => parse_none p W (by omega) h hrp)
    have hne : p ≠ textL l1 := fun e => by rw [e, hr] at hrp; cases hrp
    have h1 : ((strOf p).toList == (strOf (textL l1)).toList) = false := by rw [str_eq]; exact decide_eq_false hne
    rcases hs with ⟨hs, rfl⟩ | ⟨hs, hx⟩
    · exact texts_none_short va l l1 (strOf p) (strOf (textL l1)) w hl0 hv (.inr hT) hs ll (Go.Lib.hid bl) CF CT CP CR HP h1
    · exact texts_none_long va l l1 s (strOf p) (strOf (textL l1)) w hl0 hv (.inr hT) hs hx ll (Go.Lib.hid bl) CF CT CP CR HP h1
  | some K =>
    obtain ⟨hK, hb⟩ := read_sound hrp
    have hlK := len_textL K
    rw [← hK] at hlK
    have HP := Go.Lib.hid (fun (W : World) (h : ErrVars W) => parse_some p K W (by omega) h hrp)
    have HK := Go.Lib.hid (fun v (W : World) (h : U32s W v K) => refText_any v K W h (by omega))
    rw [← hK] at HK
    rcases hs with ⟨hs, rfl⟩ | ⟨hs, hx⟩
    · exact texts_some_short va l l1 K (strOf p) (strOf (textL l1)) w hl0 hv (.inr hT) hs ll (Go.Lib.hid bl) CF CT CP CR HP HK
    · exact texts_some_long va l l1 K s (strOf p) (strOf (textL l1)) w hl0 hv (.inr hT) hs hx ll (Go.Lib.hid bl) CF CT CP CR HP HK
end Go.Proofs.YtjmakafpgfefnaaDoor.Nums
