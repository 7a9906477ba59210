/- CommAll: the law's walk: the text of any communities, and which texts are a set's. -/
import Derived.Test.YtdgfnnjcpoklfaaDoorCommParseAll
namespace Go.Proofs.YtdgfnnjcpoklfaaDoor.Com
open Go.RowKit Mem Rise Pfx Dec Nums

theorem few_allC (v : Value) (l : List Nat) (k : Nat) (w : World) (hv : U32s w v l) (hk : k ≤ 1000) (hl : l.length ≤ k) :
    Calls Tryd.prog 8 #[v, .int .i64 k] w (Gives32 23 l w) := by
  have := few_any v l k w hv hk
  rwa [List.take_of_length_le hl] at this
theorem same_trueC (va vb : Value) (a : List Nat) (w : World) (ha : U32s w va a) (hb : U32s w vb a) :
    Calls Tryd.prog 11 #[va, vb] w (Tells (.bool true) w) := by
  have := refSame_any va vb a a w ha hb
  rwa [decide_eq_true rfl] at this
/-- What is asked of the library's variables. -/
structure Env (w : World) : Prop where
  pow : Powers w
  err : ErrVars w
theorem Env.keep {w w' : World} (h : Env w) (hb : Below w.heap.size w w') : Env w' := ⟨tab_below h.pow hb, h.err.keep hb⟩
def PSome (l : List Nat) (w : World) (e : Ending) (w' : World) : Prop := ∃ A c, e = .returned (.tuple #[.slice A l.length c, .int .i64 0]) ∧ U32s w' (.slice A l.length c) l ∧ Below w.heap.size w w'
abbrev PNone (w : World) : Ending → World → Prop := Tells (.tuple #[.slice none 0 0, .int .i64 2]) w
theorem parseAll_some (s : List UInt8) (l : List Nat) (w : World) (hlen : s.length ≤ 1000000) (hv : Env w) (h : readAll s = some l) : Calls Tryd.prog 30 #[.string (strOf s)] w (PSome l w) := by
  have c := parseAll_any s hlen w hv.pow hv.err
  rw [h] at c
  exact c.mono fun e w' ⟨⟨A, k, he, hu⟩, hb⟩ => ⟨A, k, he, hu, hb⟩
theorem parseAll_none (s : List UInt8) (w : World) (hlen : s.length ≤ 1000000) (hv : Env w) (h : readAll s = none) : Calls Tryd.prog 30 #[.string (strOf s)] w (PNone w) := by
  have c := parseAll_any s hlen w hv.pow hv.err
  rw [h] at c
  exact c

set_option maxRecDepth 100000 in
set_option maxHeartbeats 4000000 in
theorem all_rn (va : Value) (l1 : List Nat) (s S T : ByteArray) (w : World) (l : List Nat) (hv : U32s w va l) (HE : Env w) (hs : (s.size ≤ 200 ∧ s = S) ∨ (200 < s.size ∧ s.extract 0 200 = S)) (ll : l1.length ≤ 15) (BL : Hid (∀ n ∈ l1, n < 4294967296))
    (CF : Hid (∀ (W : World), U32s W va l → Calls Tryd.prog 8 #[va, .int .i64 15] W (Gives32 23 l1 W)))
    (CT : Hid (∀ v (W : World), U32s W v l1 → Env W → Calls Tryd.prog 28 #[v] W (Tells (.string T) W)))
    (CR : Hid (∀ v (W : World), U32s W v l1 → Calls Tryd.prog 29 #[v] W fun e w' => e = .returned (.string T) ∧ W = w'))
    (CP : Hid (∀ W : World, Env W → Calls Tryd.prog 30 #[.string T] W (PSome l1 W)))
    (CU : Hid (∀ v (W : World), U32s W v l1 → Calls Tryd.prog 31 #[v] W (Tells (.bool true) W)))
    (CQ : Hid (∀ W : World, Env W → Calls Tryd.prog 30 #[.string S] W (PNone W)))
    (t : (S.toList == T.toList) = false)
    : Calls Tryd.prog 6 #[va, .string s] w (Tells (.bool true) w) := by
  have CL := Go.Lib.hid lives_any
  have hz : (strOf []).size = 0 := rfl
  obtain ⟨Al, cl, rfl, -, -, -⟩ := hv.open_
  have CF' := Go.Lib.hid (CF.out _ hv)
  clear CF hv hz
  rcases hs with ⟨hs, rfl⟩ | ⟨hs, hx⟩
  all_goals first | have k40 : ¬ (200 : Int) < (s.size : Int) := (by omega) | have k40 : (200 : Int) < (s.size : Int) := (by omega)
  all_goals
    have HB := Go.Lib.hid (Below.refl w.heap.size w)
    go_enter Tryd.func6, Tryd.ntmps6
    go_wp2_with fail
    refine (CF'.out).mono ?_
    rintro e w1 ⟨v1, rfl, o1, hb1⟩
    have f1 := U32s.of_own o1 (BL.out)
    obtain ⟨A1, c1, rfl, -, -, -⟩ := f1.open_
    replace HE := HE.keep hb1
    replace HB := Go.Lib.hid (Below.tr HB.out hb1)
    clear hb1
    go_wp2_with fail
    refine (few_allC _ l1 15 _ f1 (by omega) ll).mono ?_
    rintro e w2 ⟨v2, rfl, o2, hb2⟩
    have f3 := U32s.of_own o2 (BL.out)
    obtain ⟨A2, c2, rfl, -, -, -⟩ := f3.open_
    replace HE := HE.keep hb2
    replace f1 := f1.keep hb2
    replace HB := Go.Lib.hid (Below.tr HB.out hb2)
    clear hb2
    go_wp2_with fail
    refine (CT.out _ _ f3 HE).mono ?_
    rintro e w3 ⟨rfl, hb3⟩
    replace HE := HE.keep hb3
    replace f1 := f1.keep hb3
    replace f3 := f3.keep hb3
    replace HB := Go.Lib.hid (Below.tr HB.out hb3)
    clear hb3
    clear f3
    go_wp2_with fail
    refine (CR.out _ _ f1).mono ?_
    rintro e w4 ⟨rfl, rfl⟩
    go_wp2_with fail
    refine (CR.out _ _ f1).mono ?_
    rintro e w5 ⟨rfl, rfl⟩
    go_wp2_with fail
    refine (CP.out _ HE).mono ?_
    rintro e w6 ⟨A6, c6, rfl, hx1, hb6⟩
    replace HE := HE.keep hb6
    replace f1 := f1.keep hb6
    replace HB := Go.Lib.hid (Below.tr HB.out hb6)
    clear hb6
    go_wp2_with fail
    refine (CU.out _ _ f1).mono ?_
    rintro e w7 ⟨rfl, hb7⟩
    replace HE := HE.keep hb7
    replace f1 := f1.keep hb7
    replace hx1 := hx1.keep hb7
    replace HB := Go.Lib.hid (Below.tr HB.out hb7)
    clear hb7
    go_wp2_with fail
    refine (same_trueC _ _ l1 _ hx1 f1).mono ?_
    rintro e w8 ⟨rfl, hb8⟩
    replace HE := HE.keep hb8
    replace f1 := f1.keep hb8
    replace hx1 := hx1.keep hb8
    replace HB := Go.Lib.hid (Below.tr HB.out hb8)
    clear hb8
    go_wp2_with fail
    refine (CQ.out _ HE).mono ?_
    rintro e w9 ⟨rfl, hb9⟩
    replace HE := HE.keep hb9
    replace f1 := f1.keep hb9
    replace hx1 := hx1.keep hb9
    replace HB := Go.Lib.hid (Below.tr HB.out hb9)
    clear hb9
    go_wp2_with fail
    refine (CR.out _ _ f1).mono ?_
    rintro e w10 ⟨rfl, rfl⟩
    go_wp2_with fail
    refine (CL.out _ HE.pow).mono ?_
    rintro e w11 ⟨rfl, hb11⟩
    replace HE := HE.keep hb11
    replace f1 := f1.keep hb11
    replace hx1 := hx1.keep hb11
    replace HB := Go.Lib.hid (Below.tr HB.out hb11)
    clear hb11
    go_wp2
    go_ret
    exact ⟨rfl, HB.out⟩

set_option maxRecDepth 100000 in
set_option maxHeartbeats 4000000 in
theorem all_fn (va : Value) (l1 : List Nat) (s S T : ByteArray) (w : World) (l : List Nat) (hv : U32s w va l) (HE : Env w) (hs : (s.size ≤ 200 ∧ s = S) ∨ (200 < s.size ∧ s.extract 0 200 = S)) (ll : l1.length ≤ 15) (BL : Hid (∀ n ∈ l1, n < 4294967296))
    (CF : Hid (∀ (W : World), U32s W va l → Calls Tryd.prog 8 #[va, .int .i64 15] W (Gives32 23 l1 W)))
    (CT : Hid (∀ v (W : World), U32s W v l1 → Env W → Calls Tryd.prog 28 #[v] W (Tells (.string T) W)))
    (CR : Hid (∀ v (W : World), U32s W v l1 → Calls Tryd.prog 29 #[v] W fun e w' => e = .returned (.string T) ∧ W = w'))
    (CP : Hid (∀ W : World, Env W → Calls Tryd.prog 30 #[.string T] W (PNone W)))
    (CU : Hid (∀ v (W : World), U32s W v l1 → Calls Tryd.prog 31 #[v] W (Tells (.bool false) W)))
    (CQ : Hid (∀ W : World, Env W → Calls Tryd.prog 30 #[.string S] W (PNone W)))
    (t : (S.toList == T.toList) = false)
    : Calls Tryd.prog 6 #[va, .string s] w (Tells (.bool true) w) := by
  have CL := Go.Lib.hid lives_any
  have hz : (strOf []).size = 0 := rfl
  obtain ⟨Al, cl, rfl, -, -, -⟩ := hv.open_
  have CF' := Go.Lib.hid (CF.out _ hv)
  clear CF hv hz
  rcases hs with ⟨hs, rfl⟩ | ⟨hs, hx⟩
  all_goals first | have k40 : ¬ (200 : Int) < (s.size : Int) := (by omega) | have k40 : (200 : Int) < (s.size : Int) := (by omega)
  all_goals
    have HB := Go.Lib.hid (Below.refl w.heap.size w)
    go_enter Tryd.func6, Tryd.ntmps6
    go_wp2_with fail
    refine (CF'.out).mono ?_
    rintro e w1 ⟨v1, rfl, o1, hb1⟩
    have f1 := U32s.of_own o1 (BL.out)
    obtain ⟨A1, c1, rfl, -, -, -⟩ := f1.open_
    replace HE := HE.keep hb1
    replace HB := Go.Lib.hid (Below.tr HB.out hb1)
    clear hb1
    go_wp2_with fail
    refine (few_allC _ l1 15 _ f1 (by omega) ll).mono ?_
    rintro e w2 ⟨v2, rfl, o2, hb2⟩
    have f3 := U32s.of_own o2 (BL.out)
    obtain ⟨A2, c2, rfl, -, -, -⟩ := f3.open_
    replace HE := HE.keep hb2
    replace f1 := f1.keep hb2
    replace HB := Go.Lib.hid (Below.tr HB.out hb2)
    clear hb2
    go_wp2_with fail
    refine (CT.out _ _ f3 HE).mono ?_
    rintro e w3 ⟨rfl, hb3⟩
    replace HE := HE.keep hb3
    replace f1 := f1.keep hb3
    replace f3 := f3.keep hb3
    replace HB := Go.Lib.hid (Below.tr HB.out hb3)
    clear hb3
    clear f3
    go_wp2_with fail
    refine (CR.out _ _ f1).mono ?_
    rintro e w4 ⟨rfl, rfl⟩
    go_wp2_with fail
    refine (CR.out _ _ f1).mono ?_
    rintro e w5 ⟨rfl, rfl⟩
    go_wp2_with fail
    refine (CP.out _ HE).mono ?_
    rintro e w6 ⟨rfl, hb6⟩
    replace HE := HE.keep hb6
    replace f1 := f1.keep hb6
    replace HB := Go.Lib.hid (Below.tr HB.out hb6)
    clear hb6
    go_wp2_with fail
    refine (CU.out _ _ f1).mono ?_
    rintro e w7 ⟨rfl, hb7⟩
    replace HE := HE.keep hb7
    replace f1 := f1.keep hb7
    replace HB := Go.Lib.hid (Below.tr HB.out hb7)
    clear hb7
    go_wp2_with fail
    refine (CQ.out _ HE).mono ?_
    rintro e w8 ⟨rfl, hb8⟩
    replace HE := HE.keep hb8
    replace f1 := f1.keep hb8
    replace HB := Go.Lib.hid (Below.tr HB.out hb8)
    clear hb8
    go_wp2_with fail
    refine (CR.out _ _ f1).mono ?_
    rintro e w9 ⟨rfl, rfl⟩
    go_wp2_with fail
    refine (CL.out _ HE.pow).mono ?_
    rintro e w10 ⟨rfl, hb10⟩
    replace HE := HE.keep hb10
    replace f1 := f1.keep hb10
    replace HB := Go.Lib.hid (Below.tr HB.out hb10)
    clear hb10
    go_wp2
    go_ret
    exact ⟨rfl, HB.out⟩

set_option maxRecDepth 100000 in
set_option maxHeartbeats 4000000 in
theorem all_fs (va : Value) (l1 : List Nat) (s S T : ByteArray) (w : World) (l : List Nat) (hv : U32s w va l) (HE : Env w) (hs : (s.size ≤ 200 ∧ s = S) ∨ (200 < s.size ∧ s.extract 0 200 = S)) (ll : l1.length ≤ 15) (BL : Hid (∀ n ∈ l1, n < 4294967296))
    (CF : Hid (∀ (W : World), U32s W va l → Calls Tryd.prog 8 #[va, .int .i64 15] W (Gives32 23 l1 W)))
    (CT : Hid (∀ v (W : World), U32s W v l1 → Env W → Calls Tryd.prog 28 #[v] W (Tells (.string T) W)))
    (CR : Hid (∀ v (W : World), U32s W v l1 → Calls Tryd.prog 29 #[v] W fun e w' => e = .returned (.string T) ∧ W = w'))
    (CP : Hid (∀ W : World, Env W → Calls Tryd.prog 30 #[.string T] W (PNone W)))
    (CU : Hid (∀ v (W : World), U32s W v l1 → Calls Tryd.prog 31 #[v] W (Tells (.bool false) W)))
    (CQ : Hid (∀ W : World, Env W → Calls Tryd.prog 30 #[.string S] W (PNone W)))
    (t : (S.toList == T.toList) = true)
    : Calls Tryd.prog 6 #[va, .string s] w (Tells (.bool true) w) := by
  have CL := Go.Lib.hid lives_any
  have hz : (strOf []).size = 0 := rfl
  obtain ⟨Al, cl, rfl, -, -, -⟩ := hv.open_
  have CF' := Go.Lib.hid (CF.out _ hv)
  clear CF hv hz
  rcases hs with ⟨hs, rfl⟩ | ⟨hs, hx⟩
  all_goals first | have k40 : ¬ (200 : Int) < (s.size : Int) := (by omega) | have k40 : (200 : Int) < (s.size : Int) := (by omega)
  all_goals
    have HB := Go.Lib.hid (Below.refl w.heap.size w)
    go_enter Tryd.func6, Tryd.ntmps6
    go_wp2_with fail
    refine (CF'.out).mono ?_
    rintro e w1 ⟨v1, rfl, o1, hb1⟩
    have f1 := U32s.of_own o1 (BL.out)
    obtain ⟨A1, c1, rfl, -, -, -⟩ := f1.open_
    replace HE := HE.keep hb1
    replace HB := Go.Lib.hid (Below.tr HB.out hb1)
    clear hb1
    go_wp2_with fail
    refine (few_allC _ l1 15 _ f1 (by omega) ll).mono ?_
    rintro e w2 ⟨v2, rfl, o2, hb2⟩
    have f3 := U32s.of_own o2 (BL.out)
    obtain ⟨A2, c2, rfl, -, -, -⟩ := f3.open_
    replace HE := HE.keep hb2
    replace f1 := f1.keep hb2
    replace HB := Go.Lib.hid (Below.tr HB.out hb2)
    clear hb2
    go_wp2_with fail
    refine (CT.out _ _ f3 HE).mono ?_
    rintro e w3 ⟨rfl, hb3⟩
    replace HE := HE.keep hb3
    replace f1 := f1.keep hb3
    replace f3 := f3.keep hb3
    replace HB := Go.Lib.hid (Below.tr HB.out hb3)
    clear hb3
    clear f3
    go_wp2_with fail
    refine (CR.out _ _ f1).mono ?_
    rintro e w4 ⟨rfl, rfl⟩
    go_wp2_with fail
    refine (CR.out _ _ f1).mono ?_
    rintro e w5 ⟨rfl, rfl⟩
    go_wp2_with fail
    refine (CP.out _ HE).mono ?_
    rintro e w6 ⟨rfl, hb6⟩
    replace HE := HE.keep hb6
    replace f1 := f1.keep hb6
    replace HB := Go.Lib.hid (Below.tr HB.out hb6)
    clear hb6
    go_wp2_with fail
    refine (CU.out _ _ f1).mono ?_
    rintro e w7 ⟨rfl, hb7⟩
    replace HE := HE.keep hb7
    replace f1 := f1.keep hb7
    replace HB := Go.Lib.hid (Below.tr HB.out hb7)
    clear hb7
    go_wp2_with fail
    refine (CQ.out _ HE).mono ?_
    rintro e w8 ⟨rfl, hb8⟩
    replace HE := HE.keep hb8
    replace f1 := f1.keep hb8
    replace HB := Go.Lib.hid (Below.tr HB.out hb8)
    clear hb8
    go_wp2_with fail
    refine (CR.out _ _ f1).mono ?_
    rintro e w9 ⟨rfl, rfl⟩
    go_wp2_with fail
    refine (CU.out _ _ f1).mono ?_
    rintro e w10 ⟨rfl, hb10⟩
    replace HE := HE.keep hb10
    replace f1 := f1.keep hb10
    replace HB := Go.Lib.hid (Below.tr HB.out hb10)
    clear hb10
    go_wp2_with fail
    refine (CL.out _ HE.pow).mono ?_
    rintro e w11 ⟨rfl, hb11⟩
    replace HE := HE.keep hb11
    replace f1 := f1.keep hb11
    replace HB := Go.Lib.hid (Below.tr HB.out hb11)
    clear hb11
    go_wp2
    go_ret
    exact ⟨rfl, HB.out⟩

set_option maxRecDepth 100000 in
set_option maxHeartbeats 4000000 in
theorem all_rk (va : Value) (l1 K : List Nat) (s S T : ByteArray) (w : World) (l : List Nat) (hv : U32s w va l) (HE : Env w) (hs : (s.size ≤ 200 ∧ s = S) ∨ (200 < s.size ∧ s.extract 0 200 = S)) (ll : l1.length ≤ 15) (BL : Hid (∀ n ∈ l1, n < 4294967296))
    (CF : Hid (∀ (W : World), U32s W va l → Calls Tryd.prog 8 #[va, .int .i64 15] W (Gives32 23 l1 W)))
    (CT : Hid (∀ v (W : World), U32s W v l1 → Env W → Calls Tryd.prog 28 #[v] W (Tells (.string T) W)))
    (CR : Hid (∀ v (W : World), U32s W v l1 → Calls Tryd.prog 29 #[v] W fun e w' => e = .returned (.string T) ∧ W = w'))
    (CP : Hid (∀ W : World, Env W → Calls Tryd.prog 30 #[.string T] W (PSome l1 W)))
    (CU : Hid (∀ v (W : World), U32s W v l1 → Calls Tryd.prog 31 #[v] W (Tells (.bool true) W)))
    (CQ : Hid (∀ W : World, Env W → Calls Tryd.prog 30 #[.string S] W (PSome K W)))
    (CV : Hid (∀ v (W : World), U32s W v K → Calls Tryd.prog 31 #[v] W (Tells (.bool true) W)))
    (CK : Hid (∀ v (W : World), U32s W v K → Calls Tryd.prog 29 #[v] W fun e w' => e = .returned (.string S) ∧ W = w'))
    : Calls Tryd.prog 6 #[va, .string s] w (Tells (.bool true) w) := by
  have CL := Go.Lib.hid lives_any
  have hz : (strOf []).size = 0 := rfl
  obtain ⟨Al, cl, rfl, -, -, -⟩ := hv.open_
  have CF' := Go.Lib.hid (CF.out _ hv)
  clear CF hv hz
  rcases hs with ⟨hs, rfl⟩ | ⟨hs, hx⟩
  all_goals first | have k40 : ¬ (200 : Int) < (s.size : Int) := (by omega) | have k40 : (200 : Int) < (s.size : Int) := (by omega)
  all_goals
    have HB := Go.Lib.hid (Below.refl w.heap.size w)
    go_enter Tryd.func6, Tryd.ntmps6
    go_wp2_with fail
    refine (CF'.out).mono ?_
    rintro e w1 ⟨v1, rfl, o1, hb1⟩
    have f1 := U32s.of_own o1 (BL.out)
    obtain ⟨A1, c1, rfl, -, -, -⟩ := f1.open_
    replace HE := HE.keep hb1
    replace HB := Go.Lib.hid (Below.tr HB.out hb1)
    clear hb1
    go_wp2_with fail
    refine (few_allC _ l1 15 _ f1 (by omega) ll).mono ?_
    rintro e w2 ⟨v2, rfl, o2, hb2⟩
    have f3 := U32s.of_own o2 (BL.out)
    obtain ⟨A2, c2, rfl, -, -, -⟩ := f3.open_
    replace HE := HE.keep hb2
    replace f1 := f1.keep hb2
    replace HB := Go.Lib.hid (Below.tr HB.out hb2)
    clear hb2
    go_wp2_with fail
    refine (CT.out _ _ f3 HE).mono ?_
    rintro e w3 ⟨rfl, hb3⟩
    replace HE := HE.keep hb3
    replace f1 := f1.keep hb3
    replace f3 := f3.keep hb3
    replace HB := Go.Lib.hid (Below.tr HB.out hb3)
    clear hb3
    clear f3
    go_wp2_with fail
    refine (CR.out _ _ f1).mono ?_
    rintro e w4 ⟨rfl, rfl⟩
    go_wp2_with fail
    refine (CR.out _ _ f1).mono ?_
    rintro e w5 ⟨rfl, rfl⟩
    go_wp2_with fail
    refine (CP.out _ HE).mono ?_
    rintro e w6 ⟨A6, c6, rfl, hx1, hb6⟩
    replace HE := HE.keep hb6
    replace f1 := f1.keep hb6
    replace HB := Go.Lib.hid (Below.tr HB.out hb6)
    clear hb6
    go_wp2_with fail
    refine (CU.out _ _ f1).mono ?_
    rintro e w7 ⟨rfl, hb7⟩
    replace HE := HE.keep hb7
    replace f1 := f1.keep hb7
    replace hx1 := hx1.keep hb7
    replace HB := Go.Lib.hid (Below.tr HB.out hb7)
    clear hb7
    go_wp2_with fail
    refine (same_trueC _ _ l1 _ hx1 f1).mono ?_
    rintro e w8 ⟨rfl, hb8⟩
    replace HE := HE.keep hb8
    replace f1 := f1.keep hb8
    replace hx1 := hx1.keep hb8
    replace HB := Go.Lib.hid (Below.tr HB.out hb8)
    clear hb8
    go_wp2_with fail
    refine (CQ.out _ HE).mono ?_
    rintro e w9 ⟨A9, c9, rfl, hy, hb9⟩
    replace HE := HE.keep hb9
    replace f1 := f1.keep hb9
    replace hx1 := hx1.keep hb9
    replace HB := Go.Lib.hid (Below.tr HB.out hb9)
    clear hb9
    go_wp2_with fail
    refine (CV.out _ _ hy).mono ?_
    rintro e w10 ⟨rfl, hb10⟩
    replace HE := HE.keep hb10
    replace f1 := f1.keep hb10
    replace hx1 := hx1.keep hb10
    replace hy := hy.keep hb10
    replace HB := Go.Lib.hid (Below.tr HB.out hb10)
    clear hb10
    go_wp2_with fail
    refine (CK.out _ _ hy).mono ?_
    rintro e w11 ⟨rfl, rfl⟩
    go_wp2_with fail
    refine (CL.out _ HE.pow).mono ?_
    rintro e w12 ⟨rfl, hb12⟩
    replace HE := HE.keep hb12
    replace f1 := f1.keep hb12
    replace hx1 := hx1.keep hb12
    replace hy := hy.keep hb12
    replace HB := Go.Lib.hid (Below.tr HB.out hb12)
    clear hb12
    go_wp2
    go_ret
    exact ⟨rfl, HB.out⟩

set_option maxRecDepth 100000 in
set_option maxHeartbeats 4000000 in
theorem all_fk (va : Value) (l1 K : List Nat) (s S T : ByteArray) (w : World) (l : List Nat) (hv : U32s w va l) (HE : Env w) (hs : (s.size ≤ 200 ∧ s = S) ∨ (200 < s.size ∧ s.extract 0 200 = S)) (ll : l1.length ≤ 15) (BL : Hid (∀ n ∈ l1, n < 4294967296))
    (CF : Hid (∀ (W : World), U32s W va l → Calls Tryd.prog 8 #[va, .int .i64 15] W (Gives32 23 l1 W)))
    (CT : Hid (∀ v (W : World), U32s W v l1 → Env W → Calls Tryd.prog 28 #[v] W (Tells (.string T) W)))
    (CR : Hid (∀ v (W : World), U32s W v l1 → Calls Tryd.prog 29 #[v] W fun e w' => e = .returned (.string T) ∧ W = w'))
    (CP : Hid (∀ W : World, Env W → Calls Tryd.prog 30 #[.string T] W (PNone W)))
    (CU : Hid (∀ v (W : World), U32s W v l1 → Calls Tryd.prog 31 #[v] W (Tells (.bool false) W)))
    (CQ : Hid (∀ W : World, Env W → Calls Tryd.prog 30 #[.string S] W (PSome K W)))
    (CV : Hid (∀ v (W : World), U32s W v K → Calls Tryd.prog 31 #[v] W (Tells (.bool true) W)))
    (CK : Hid (∀ v (W : World), U32s W v K → Calls Tryd.prog 29 #[v] W fun e w' => e = .returned (.string S) ∧ W = w'))
    : Calls Tryd.prog 6 #[va, .string s] w (Tells (.bool true) w) := by
  have CL := Go.Lib.hid lives_any
  have hz : (strOf []).size = 0 := rfl
  obtain ⟨Al, cl, rfl, -, -, -⟩ := hv.open_
  have CF' := Go.Lib.hid (CF.out _ hv)
  clear CF hv hz
  rcases hs with ⟨hs, rfl⟩ | ⟨hs, hx⟩
  all_goals first | have k40 : ¬ (200 : Int) < (s.size : Int) := (by omega) | have k40 : (200 : Int) < (s.size : Int) := (by omega)
  all_goals
    have HB := Go.Lib.hid (Below.refl w.heap.size w)
    go_enter Tryd.func6, Tryd.ntmps6
    go_wp2_with fail
    refine (CF'.out).mono ?_
    rintro e w1 ⟨v1, rfl, o1, hb1⟩
    have f1 := U32s.of_own o1 (BL.out)
    obtain ⟨A1, c1, rfl, -, -, -⟩ := f1.open_
    replace HE := HE.keep hb1
    replace HB := Go.Lib.hid (Below.tr HB.out hb1)
    clear hb1
    go_wp2_with fail
    refine (few_allC _ l1 15 _ f1 (by omega) ll).mono ?_
    rintro e w2 ⟨v2, rfl, o2, hb2⟩
    have f3 := U32s.of_own o2 (BL.out)
    obtain ⟨A2, c2, rfl, -, -, -⟩ := f3.open_
    replace HE := HE.keep hb2
    replace f1 := f1.keep hb2
    replace HB := Go.Lib.hid (Below.tr HB.out hb2)
    clear hb2
    go_wp2_with fail
    refine (CT.out _ _ f3 HE).mono ?_
    rintro e w3 ⟨rfl, hb3⟩
    replace HE := HE.keep hb3
    replace f1 := f1.keep hb3
    replace f3 := f3.keep hb3
    replace HB := Go.Lib.hid (Below.tr HB.out hb3)
    clear hb3
    clear f3
    go_wp2_with fail
    refine (CR.out _ _ f1).mono ?_
    rintro e w4 ⟨rfl, rfl⟩
    go_wp2_with fail
    refine (CR.out _ _ f1).mono ?_
    rintro e w5 ⟨rfl, rfl⟩
    go_wp2_with fail
    refine (CP.out _ HE).mono ?_
    rintro e w6 ⟨rfl, hb6⟩
    replace HE := HE.keep hb6
    replace f1 := f1.keep hb6
    replace HB := Go.Lib.hid (Below.tr HB.out hb6)
    clear hb6
    go_wp2_with fail
    refine (CU.out _ _ f1).mono ?_
    rintro e w7 ⟨rfl, hb7⟩
    replace HE := HE.keep hb7
    replace f1 := f1.keep hb7
    replace HB := Go.Lib.hid (Below.tr HB.out hb7)
    clear hb7
    go_wp2_with fail
    refine (CQ.out _ HE).mono ?_
    rintro e w8 ⟨A8, c8, rfl, hy, hb8⟩
    replace HE := HE.keep hb8
    replace f1 := f1.keep hb8
    replace HB := Go.Lib.hid (Below.tr HB.out hb8)
    clear hb8
    go_wp2_with fail
    refine (CV.out _ _ hy).mono ?_
    rintro e w9 ⟨rfl, hb9⟩
    replace HE := HE.keep hb9
    replace f1 := f1.keep hb9
    replace hy := hy.keep hb9
    replace HB := Go.Lib.hid (Below.tr HB.out hb9)
    clear hb9
    go_wp2_with fail
    refine (CK.out _ _ hy).mono ?_
    rintro e w10 ⟨rfl, rfl⟩
    go_wp2_with fail
    refine (CL.out _ HE.pow).mono ?_
    rintro e w11 ⟨rfl, hb11⟩
    replace HE := HE.keep hb11
    replace f1 := f1.keep hb11
    replace hy := hy.keep hb11
    replace HB := Go.Lib.hid (Below.tr HB.out hb11)
    clear hb11
    go_wp2
    go_ret
    exact ⟨rfl, HB.out⟩

theorem all_walk (va : Value) (l : List Nat) (s : ByteArray) (w : World) (hl : U32s w va l) (hv : ErrVars w) (hT : Powers w) :
    Calls Tryd.prog 6 #[va, .string s] w (Tells (.bool true) w) := by
  have HE : Env w := ⟨hT, hv⟩
  have CF := Go.Lib.hid (fun (W : World) (h : U32s W va l) => few_any va l 15 W h (by omega))
  have bl : ∀ n ∈ l.take 15, n < 4294967296 := fun n hn => hl.2 n (List.mem_of_mem_take hn)
  have ll : (l.take 15).length ≤ 15 := List.length_take_le 15 l
  generalize l.take 15 = l1 at CF bl ll
  have lt := ctexts_len bl
  have hr := readAll_text bl
  have CT := Go.Lib.hid (fun v (W : World) (h1 : U32s W v l1) (h2 : Env W) => texts_any v l1 W h1 (by omega) h2.pow)
  have CR := Go.Lib.hid (fun v (W : World) (h : U32s W v l1) => refTexts_any v l1 W h (by omega))
  have CU := fun v (W : World) (h : U32s W v l1) => refRising_any v l1 W h (by omega)
  obtain ⟨p, hp, hs⟩ := piece s 200
  by_cases hri : rising l1
  · rw [if_pos hri] at hr
    rw [decide_eq_true hri] at CU
    have CP := Go.Lib.hid (fun (W : World) (h : Env W) => parseAll_some (ctexts l1) l1 W (by omega) h hr)
    cases hrp : readAll p with
    | none =>
      have CQ := Go.Lib.hid (fun (W : World) (h : Env W) => parseAll_none p W (by omega) h hrp)
      have hne : p ≠ ctexts l1 := fun e => by rw [e, hr] at hrp; cases hrp
      exact all_rn va l1 s (strOf p) (strOf (ctexts l1)) w l hl HE hs ll (Go.Lib.hid bl) CF CT CR CP (Go.Lib.hid CU) CQ ((str_eq p (ctexts l1)).trans (decide_eq_false hne))
    | some K =>
      obtain ⟨hK, hb, hrk⟩ := readAll_sound hrp
      have hcK := ctexts_count K
      rw [← hK] at hcK
      have CQ := Go.Lib.hid (fun (W : World) (h : Env W) => parseAll_some p K W (by omega) h hrp)
      have CK := Go.Lib.hid (fun v (W : World) (h : U32s W v K) => refTexts_any v K W h (by omega))
      rw [← hK] at CK
      have CV := fun v (W : World) (h : U32s W v K) => refRising_any v K W h (by omega)
      rw [decide_eq_true hrk] at CV
      exact all_rk va l1 K s (strOf p) (strOf (ctexts l1)) w l hl HE hs ll (Go.Lib.hid bl) CF CT CR CP (Go.Lib.hid CU) CQ (Go.Lib.hid CV) CK
  · rw [if_neg hri] at hr
    rw [decide_eq_false hri] at CU
    have CP := Go.Lib.hid (fun (W : World) (h : Env W) => parseAll_none (ctexts l1) W (by omega) h hr)
    cases hrp : readAll p with
    | none =>
      have CQ := Go.Lib.hid (fun (W : World) (h : Env W) => parseAll_none p W (by omega) h hrp)
      by_cases hne : p = ctexts l1
      · exact all_fs va l1 s (strOf p) (strOf (ctexts l1)) w l hl HE hs ll (Go.Lib.hid bl) CF CT CR CP (Go.Lib.hid CU) CQ ((str_eq p (ctexts l1)).trans (decide_eq_true hne))
      · exact all_fn va l1 s (strOf p) (strOf (ctexts l1)) w l hl HE hs ll (Go.Lib.hid bl) CF CT CR CP (Go.Lib.hid CU) CQ ((str_eq p (ctexts l1)).trans (decide_eq_false hne))
    | some K =>
      obtain ⟨hK, hb, hrk⟩ := readAll_sound hrp
      have hcK := ctexts_count K
      rw [← hK] at hcK
      have CQ := Go.Lib.hid (fun (W : World) (h : Env W) => parseAll_some p K W (by omega) h hrp)
      have CK := Go.Lib.hid (fun v (W : World) (h : U32s W v K) => refTexts_any v K W h (by omega))
      rw [← hK] at CK
      have CV := fun v (W : World) (h : U32s W v K) => refRising_any v K W h (by omega)
      rw [decide_eq_true hrk] at CV
      exact all_fk va l1 K s (strOf p) (strOf (ctexts l1)) w l hl HE hs ll (Go.Lib.hid bl) CF CT CR CP (Go.Lib.hid CU) CQ (Go.Lib.hid CV) CK
end Go.Proofs.YtdgfnnjcpoklfaaDoor.Com
