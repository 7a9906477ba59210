/- AsnTwo: the law's walk: what two sets have together, in common, and apart. -/
import Derived.Test.YtjmakafpgfefnaaDoorSetOps
import Derived.Test.YtjmakafpgfefnaaDoorAsnLives
namespace Go.Proofs.YtjmakafpgfefnaaDoor.Nums
open Go.RowKit Mem Rise

theorem few_all (v : Value) (l : List Nat) (k : Nat) (w : World) (hv : U32s w v l) (hk : k ≤ 1000) (hl : l.length ≤ k) :
    Calls Tryd.prog 6 #[v, .int .i64 k] w (Gives32 23 l w) := by
  have := few_any v l k w hv hk
  rwa [List.take_of_length_le hl] at this
theorem same_true (va vb : Value) (a b : List Nat) (w : World) (ha : U32s w va a) (hb : U32s w vb b) (h : a = b) :
    Calls Tryd.prog 9 #[va, vb] w (Tells (.bool true) w) := by
  have := refSame_any va vb a b w ha hb
  rwa [decide_eq_true h] at this
theorem bound_setOf {l : List Nat} (h : ∀ n ∈ l, n < 4294967296) : ∀ n ∈ setOf l, n < 4294967296 := fun n hn => h n ((mem_setOf l n).1 hn)
theorem bound_kept {f : Bool → Bool → Bool} {a b : List Nat} (ra : rising a) (rb : rising b) (ha : ∀ n ∈ a, n < 4294967296) (hb : ∀ n ∈ b, n < 4294967296) : ∀ n ∈ kept f a b, n < 4294967296 := fun n hn => ((mem_kept f ra rb n).1 hn).1.elim (ha n) (hb n)
theorem bound_pick {a b : List Nat} {is : Bool} (ha : ∀ n ∈ a, n < 4294967296) : ∀ n ∈ pick a b is, n < 4294967296 := fun n hn => ha n ((mem_pick a b is n).1 hn).1
theorem len_pick (a b : List Nat) (is : Bool) : (pick a b is).length ≤ a.length := List.length_filter_le _ _

theorem two_or {a b : List Nat} (ra : rising a) (rb : rising b) : kept (fun x y => x || y) a b = setOf (a ++ b) :=
  rising_ext (rising_kept _ ra rb) (rising_setOf _) fun n => by rw [mem_kept _ ra rb, mem_setOf, List.mem_append]; simp
theorem two_minus {a b : List Nat} (ra : rising a) (rb : rising b) : kept (fun x y => x && !y) a b = pick a b false :=
  rising_ext (rising_kept _ ra rb) (rising_pick _ _ ra) fun n => by
    rw [mem_kept _ ra rb, mem_pick]
    by_cases h1 : n ∈ a <;> by_cases h2 : n ∈ b <;> simp [h1, h2]
theorem two_both {a b : List Nat} (ra : rising a) (rb : rising b) : kept (fun x y => x && y) a b = pick a b true :=
  rising_ext (rising_kept _ ra rb) (rising_pick _ _ ra) fun n => by
    rw [mem_kept _ ra rb, mem_pick]
    by_cases h1 : n ∈ a <;> by_cases h2 : n ∈ b <;> simp [h1, h2]
theorem two_back {a b : List Nat} (ra : rising a) : kept (fun x y => x || y) (pick a b false) (pick a b true) = a := by
  have r1 := rising_pick b false ra
  have r2 := rising_pick b true ra
  refine rising_ext (rising_kept _ r1 r2) ra fun n => ?_
  rw [mem_kept _ r1 r2]
  have e1 := mem_pick a b false n
  have e2 := mem_pick a b true n
  by_cases h1 : n ∈ a <;> by_cases h2 : n ∈ b <;> simp [e1, e2, h1, h2]
theorem two_within {a b : List Nat} (ra : rising a) (rb : rising b) : (((pick a b false).length : Int) == 0) = allIn a b := by
  have h := allIn_iff ra rb
  cases hr : allIn a b
  · have : ¬ ∀ n ∈ a, n ∈ b := fun h2 => by rw [h.2 h2] at hr; cases hr
    have hne : pick a b false ≠ [] := fun e => this fun n hn => by
      by_cases h2 : n ∈ b
      · exact h2
      · have : n ∈ pick a b false := (mem_pick a b false n).2 ⟨hn, by simp [h2]⟩
        rw [e] at this; cases this
    have := List.length_pos_iff.2 hne
    simp; exact hne
  · have e : pick a b false = [] := by
      refine List.eq_nil_iff_forall_not_mem.2 fun n hn => ?_
      obtain ⟨h1, h2⟩ := (mem_pick a b false n).1 hn
      have := h.1 hr n h1
      simp [this] at h2
    rw [e]; rfl

set_option maxRecDepth 100000 in
set_option maxHeartbeats 4000000 in
theorem two_walk (va vb : Value) (l m : List Nat) (w : World) (hl0 : U32s w va l) (hm0 : U32s w vb m) :
    Calls Tryd.prog 4 #[va, vb] w (Tells (.bool true) w) := by
  have CF1 := Go.Lib.hid (few_any va l 40 w hl0 (by omega))
  have CF2 := Go.Lib.hid (fun v (W : World) h => few_any v m 40 W h (by omega))
  have bl : ∀ n ∈ l.take 40, n < 4294967296 := fun n hn => hl0.2 n (List.mem_of_mem_take hn)
  have bm : ∀ n ∈ m.take 40, n < 4294967296 := fun n hn => hm0.2 n (List.mem_of_mem_take hn)
  have tl : (l.take 40).length ≤ 40 := List.length_take_le 40 l
  have tm : (m.take 40).length ≤ 40 := List.length_take_le 40 m
  generalize l.take 40 = l1 at CF1 bl tl
  generalize m.take 40 = m1 at CF2 bm tm
  obtain ⟨a, ha⟩ : ∃ a, a = setOf l1 := ⟨_, rfl⟩
  obtain ⟨b, hb⟩ : ∃ b, b = setOf m1 := ⟨_, rfl⟩
  have ra : rising a := ha ▸ rising_setOf _
  have rb : rising b := hb ▸ rising_setOf _
  have ba : ∀ n ∈ a, n < 4294967296 := ha ▸ bound_setOf bl
  have bb : ∀ n ∈ b, n < 4294967296 := hb ▸ bound_setOf bm
  have la : a.length ≤ 40 := by
    rw [ha]
    have := length_setOf l1
    omega
  have lb : b.length ≤ 40 := by
    rw [hb]
    have := length_setOf m1
    omega
  have CS : ∀ (v : Value) (W : World), U32s W v l1 → Calls Tryd.prog 7 #[v] W (Tells32 a W) := fun v W h => ha ▸ refSet_any v _ W h (by omega)
  have CT : ∀ (v : Value) (W : World), U32s W v m1 → Calls Tryd.prog 7 #[v] W (Tells32 b W) := fun v W h => hb ▸ refSet_any v _ W h (by omega)
  have CU : ∀ (x y : Value) (W : World), U32s W x a → U32s W y b → Calls Tryd.prog 18 #[x, y] W (Gives32 23 (setOf (a ++ b)) W) := fun x y W h1 h2 => two_or ra rb ▸ union_any x y a b W h1 h2 (by omega)
  have CM : ∀ (x y : Value) (W : World), U32s W x a → U32s W y b → Calls Tryd.prog 19 #[x, y] W (Gives32 23 (pick a b false) W) := fun x y W h1 h2 => two_minus ra rb ▸ minus_any x y a b W h1 h2 (by omega)
  have CB : ∀ (x y : Value) (W : World), U32s W x a → U32s W y b → Calls Tryd.prog 20 #[x, y] W (Gives32 23 (pick a b true) W) := fun x y W h1 h2 => two_both ra rb ▸ both_any x y a b W h1 h2 (by omega)
  have CV : ∀ (x y : Value) (W : World), U32s W x (pick a b false) → U32s W y (pick a b true) → Calls Tryd.prog 18 #[x, y] W (Gives32 23 a W) := fun x y W h1 h2 => two_back (b := b) ra ▸ union_any x y _ _ W h1 h2 (by have := len_pick a b false; have := len_pick a b true; omega)
  have CW : ∀ (x y : Value) (W : World), U32s W x a → U32s W y b → Calls Tryd.prog 21 #[x, y] W (Tells (.bool (allIn a b)) W) := fun x y W h1 h2 => within_any x y a b W h1 h2 (by omega)
  have hz := two_within ra rb
  have lM : (pick a b false).length ≤ 40 := Nat.le_trans (len_pick _ _ _) la
  have bM : ∀ n ∈ pick a b false, n < 4294967296 := bound_pick ba
  have bC : ∀ n ∈ pick a b true, n < 4294967296 := bound_pick ba
  have bS : ∀ n ∈ setOf (a ++ b), n < 4294967296 := bound_setOf fun n hn => (List.mem_append.1 hn).elim (ba n) (bb n)
  have CR : ∀ (v : Value) (W : World), U32s W v (a ++ b) → Calls Tryd.prog 7 #[v] W (Tells32 (setOf (a ++ b)) W) := fun v W h => refSet_any v _ W h (by rw [List.length_append]; omega)
  have bAB : ∀ n ∈ a ++ b, n < 4294967296 := fun n hn => (List.mem_append.1 hn).elim (ba n) (bb n)
  obtain ⟨i, E⟩ := elem32
  have BL := Go.Lib.hid bl
  have BM' := Go.Lib.hid bm
  have BA := Go.Lib.hid ba
  have BB := Go.Lib.hid bb
  have BM := Go.Lib.hid bM
  have BC := Go.Lib.hid bC
  have BS := Go.Lib.hid bS
  have BAB := Go.Lib.hid bAB
  have CP1 : ∀ (x y : Value) (W : World), U32s W x a → U32s W y b → Calls Tryd.prog 16 #[x, y, .bool false] W (Gives32 23 (pick a b false) W) := fun x y W h1 h2 => refPick_any x y a b false W h1 h2 (by omega)
  have CP2 : ∀ (x y : Value) (W : World), U32s W x a → U32s W y b → Calls Tryd.prog 16 #[x, y, .bool true] W (Gives32 23 (pick a b true) W) := fun x y W h1 h2 => refPick_any x y a b true W h1 h2 (by omega)
  have CQ : (∀ (x y : Value) (W : World), U32s W x a → U32s W y b → Calls Tryd.prog 22 #[x, y] W (Tells (.bool (decide (a = b))) W)) ∧ (∀ (x y : Value) (W : World), U32s W x a → U32s W y b → Calls Tryd.prog 9 #[x, y] W (Tells (.bool (decide (a = b))) W)) :=
    ⟨fun x y W h1 h2 => same_any x y a b W h1 h2, fun x y W h1 h2 => refSame_any x y a b W h1 h2⟩
  generalize decide (a = b) = q at CQ
  replace CQ := Go.Lib.hid CQ
  have CX := Go.Lib.hid (And.intro CS (And.intro CT (And.intro CU (And.intro CM (And.intro CB (And.intro CV (And.intro CW (And.intro CR (And.intro CP1 CP2)))))))))
  have CL := Go.Lib.hid lives_any
  clear CS CT CU CM CB CV CW CR CP1 CP2 ba bb bl bm bM bC bS bAB ha hb ra rb
  generalize allIn a b = r at hz CX
  generalize hM : pick a b false = M at hz CX lM BM
  generalize pick a b true = C at CX BC
  generalize setOf (a ++ b) = S at CX BS
  clear hM
  obtain ⟨Al, cl, rfl, -, -, -⟩ := hl0.open_
  obtain ⟨Am, cm, rfl, -, -, -⟩ := hm0.open_
  have HB := Go.Lib.hid (Below.refl w.heap.size w)
  go_enter Tryd.func4, Tryd.ntmps4
  go_wp2_with fail
  refine (CF1.out).mono ?_
  rintro e w1 ⟨v1, rfl, o1, hb1⟩
  have f1 := U32s.of_own o1 (BL.out)
  obtain ⟨A1, c1, rfl, -, -, -⟩ := f1.open_
  replace hl0 := hl0.keep hb1
  replace hm0 := hm0.keep hb1
  replace HB := Go.Lib.hid (Below.tr HB.out hb1)
  clear hb1
  clear hl0
  go_wp2_with fail
  refine (CX.out.1 _ _ f1).mono ?_
  rintro e w2 ⟨v2, rfl, ha, hb2⟩
  obtain ⟨A2, c2, rfl, -, -, -⟩ := ha.open_
  replace hm0 := hm0.keep hb2
  replace f1 := f1.keep hb2
  replace HB := Go.Lib.hid (Below.tr HB.out hb2)
  clear hb2
  clear f1
  go_wp2_with fail
  refine (CF2.out _ _ hm0).mono ?_
  rintro e w3 ⟨v3, rfl, o3, hb3⟩
  have f2 := U32s.of_own o3 (BM'.out)
  obtain ⟨A3, c3, rfl, -, -, -⟩ := f2.open_
  replace hm0 := hm0.keep hb3
  replace ha := ha.keep hb3
  replace HB := Go.Lib.hid (Below.tr HB.out hb3)
  clear hb3
  clear hm0
  go_wp2_with fail
  refine (CX.out.2.1 _ _ f2).mono ?_
  rintro e w4 ⟨v4, rfl, hb, hb4⟩
  obtain ⟨A4, c4, rfl, -, -, -⟩ := hb.open_
  replace ha := ha.keep hb4
  replace f2 := f2.keep hb4
  replace HB := Go.Lib.hid (Below.tr HB.out hb4)
  clear hb4
  clear f2
  go_wp2_with fail
  refine (few_all _ a 40 _ ha (by omega) la).mono ?_
  rintro e w5 ⟨v5, rfl, o5, hb5⟩
  have f3 := U32s.of_own o5 (BA.out)
  obtain ⟨A5, c5, rfl, -, -, -⟩ := f3.open_
  replace ha := ha.keep hb5
  replace hb := hb.keep hb5
  replace HB := Go.Lib.hid (Below.tr HB.out hb5)
  clear hb5
  go_wp2_with fail
  refine (few_all _ b 40 _ hb (by omega) lb).mono ?_
  rintro e w6 ⟨v6, rfl, o6, hb6⟩
  have f4 := U32s.of_own o6 (BB.out)
  obtain ⟨A6, c6, rfl, -, -, -⟩ := f4.open_
  replace ha := ha.keep hb6
  replace hb := hb.keep hb6
  replace f3 := f3.keep hb6
  replace HB := Go.Lib.hid (Below.tr HB.out hb6)
  clear hb6
  go_wp2_with fail
  refine (CX.out.2.2.1 _ _ _ f3 f4).mono ?_
  rintro e w7 ⟨v7, rfl, o7, hb7⟩
  have hu := U32s.of_own o7 (BS.out)
  obtain ⟨A7, c7, rfl, -, -, -⟩ := hu.open_
  replace ha := ha.keep hb7
  replace hb := hb.keep hb7
  replace f3 := f3.keep hb7
  replace f4 := f4.keep hb7
  replace HB := Go.Lib.hid (Below.tr HB.out hb7)
  clear hb7
  clear f3 f4
  go_wp2_with fail
  refine (few_all _ a 40 _ ha (by omega) la).mono ?_
  rintro e w8 ⟨v8, rfl, o8, hb8⟩
  have f3 := U32s.of_own o8 (BA.out)
  obtain ⟨A8, c8, rfl, -, -, -⟩ := f3.open_
  replace ha := ha.keep hb8
  replace hb := hb.keep hb8
  replace hu := hu.keep hb8
  replace HB := Go.Lib.hid (Below.tr HB.out hb8)
  clear hb8
  go_wp2_with fail
  refine (few_all _ b 40 _ hb (by omega) lb).mono ?_
  rintro e w9 ⟨v9, rfl, o9, hb9⟩
  have f4 := U32s.of_own o9 (BB.out)
  obtain ⟨A9, c9, rfl, -, -, -⟩ := f4.open_
  replace ha := ha.keep hb9
  replace hb := hb.keep hb9
  replace hu := hu.keep hb9
  replace f3 := f3.keep hb9
  replace HB := Go.Lib.hid (Below.tr HB.out hb9)
  clear hb9
  go_wp2_with fail
  refine (CX.out.2.2.2.1 _ _ _ f3 f4).mono ?_
  rintro e w10 ⟨v10, rfl, o10, hb10⟩
  have hm := U32s.of_own o10 (BM.out)
  obtain ⟨A10, c10, rfl, -, -, -⟩ := hm.open_
  replace ha := ha.keep hb10
  replace hb := hb.keep hb10
  replace hu := hu.keep hb10
  replace f3 := f3.keep hb10
  replace f4 := f4.keep hb10
  replace HB := Go.Lib.hid (Below.tr HB.out hb10)
  clear hb10
  clear f3 f4
  go_wp2_with fail
  refine (few_all _ a 40 _ ha (by omega) la).mono ?_
  rintro e w11 ⟨v11, rfl, o11, hb11⟩
  have f3 := U32s.of_own o11 (BA.out)
  obtain ⟨A11, c11, rfl, -, -, -⟩ := f3.open_
  replace ha := ha.keep hb11
  replace hb := hb.keep hb11
  replace hu := hu.keep hb11
  replace hm := hm.keep hb11
  replace HB := Go.Lib.hid (Below.tr HB.out hb11)
  clear hb11
  go_wp2_with fail
  refine (few_all _ b 40 _ hb (by omega) lb).mono ?_
  rintro e w12 ⟨v12, rfl, o12, hb12⟩
  have f4 := U32s.of_own o12 (BB.out)
  obtain ⟨A12, c12, rfl, -, -, -⟩ := f4.open_
  replace ha := ha.keep hb12
  replace hb := hb.keep hb12
  replace hu := hu.keep hb12
  replace hm := hm.keep hb12
  replace f3 := f3.keep hb12
  replace HB := Go.Lib.hid (Below.tr HB.out hb12)
  clear hb12
  go_wp2_with fail
  refine (CX.out.2.2.2.2.1 _ _ _ f3 f4).mono ?_
  rintro e w13 ⟨v13, rfl, o13, hb13⟩
  have hc := U32s.of_own o13 (BC.out)
  obtain ⟨A13, c13, rfl, -, -, -⟩ := hc.open_
  replace ha := ha.keep hb13
  replace hb := hb.keep hb13
  replace hu := hu.keep hb13
  replace hm := hm.keep hb13
  replace f3 := f3.keep hb13
  replace f4 := f4.keep hb13
  replace HB := Go.Lib.hid (Below.tr HB.out hb13)
  clear hb13
  clear f3 f4
  go_wp2_with fail
  refine (few_all _ a 40 _ ha (by omega) la).mono ?_
  rintro e w14 ⟨v14, rfl, o14, hb14⟩
  have hbr := (hb.keep hb14).1
  obtain ⟨A14, c14, rfl⟩ := own_form o14
  go_wp2_with (at_builtin; refine wpList_append_row rfl (.tmp 31) (.tmp 32) rfl E w13.heap.size _ a.length _ rfl o14 _ b.length _ rfl hbr (ones_u32 _) (by unfold maxLen; omega) (by omega) hb14.size (a.length + b.length) rfl ?_; intro Ax cx wx ox hgx hatx hbx)
  have hx : U32s wx (.slice Ax (a.length + b.length) cx) (a ++ b) := ⟨by have := Row.of_own ox; simpa using this, BAB.out⟩
  have hb15 : Below w13.heap.size w13 wx := hb14.trans hbx
  clear hb14 hbx hgx hatx ox o14 hbr
  replace ha := ha.keep hb15
  replace hb := hb.keep hb15
  replace hu := hu.keep hb15
  replace hm := hm.keep hb15
  replace hc := hc.keep hb15
  replace HB := Go.Lib.hid (Below.tr HB.out hb15)
  clear hb15
  refine (CX.out.2.2.2.2.2.2.2.1 _ _ hx).mono ?_
  rintro e w16 ⟨v16, rfl, hs, hb16⟩
  obtain ⟨A16, c16, rfl, -, -, -⟩ := hs.open_
  replace ha := ha.keep hb16
  replace hb := hb.keep hb16
  replace hu := hu.keep hb16
  replace hm := hm.keep hb16
  replace hc := hc.keep hb16
  replace hx := hx.keep hb16
  replace HB := Go.Lib.hid (Below.tr HB.out hb16)
  clear hb16
  clear hx
  go_wp2_with fail
  refine (same_true _ _ S S _ hu hs rfl).mono ?_
  rintro e w17 ⟨rfl, hb17⟩
  replace ha := ha.keep hb17
  replace hb := hb.keep hb17
  replace hu := hu.keep hb17
  replace hm := hm.keep hb17
  replace hc := hc.keep hb17
  replace hs := hs.keep hb17
  replace HB := Go.Lib.hid (Below.tr HB.out hb17)
  clear hb17
  clear hs hu
  go_wp2_with fail
  refine (CX.out.2.2.2.2.2.2.2.2.1 _ _ _ ha hb).mono ?_
  rintro e w18 ⟨v18, rfl, o18, hb18⟩
  have hp := U32s.of_own o18 (BM.out)
  obtain ⟨A18, c18, rfl, -, -, -⟩ := hp.open_
  replace ha := ha.keep hb18
  replace hb := hb.keep hb18
  replace hm := hm.keep hb18
  replace hc := hc.keep hb18
  replace HB := Go.Lib.hid (Below.tr HB.out hb18)
  clear hb18
  go_wp2_with fail
  refine (same_true _ _ M M _ hm hp rfl).mono ?_
  rintro e w19 ⟨rfl, hb19⟩
  replace ha := ha.keep hb19
  replace hb := hb.keep hb19
  replace hm := hm.keep hb19
  replace hc := hc.keep hb19
  replace hp := hp.keep hb19
  replace HB := Go.Lib.hid (Below.tr HB.out hb19)
  clear hb19
  clear hp
  go_wp2_with fail
  refine (CX.out.2.2.2.2.2.2.2.2.2 _ _ _ ha hb).mono ?_
  rintro e w20 ⟨v20, rfl, o20, hb20⟩
  have hp := U32s.of_own o20 (BC.out)
  obtain ⟨A20, c20, rfl, -, -, -⟩ := hp.open_
  replace ha := ha.keep hb20
  replace hb := hb.keep hb20
  replace hm := hm.keep hb20
  replace hc := hc.keep hb20
  replace HB := Go.Lib.hid (Below.tr HB.out hb20)
  clear hb20
  go_wp2_with fail
  refine (same_true _ _ C C _ hc hp rfl).mono ?_
  rintro e w21 ⟨rfl, hb21⟩
  replace ha := ha.keep hb21
  replace hb := hb.keep hb21
  replace hm := hm.keep hb21
  replace hc := hc.keep hb21
  replace hp := hp.keep hb21
  replace HB := Go.Lib.hid (Below.tr HB.out hb21)
  clear hb21
  clear hp
  go_wp2_with fail
  refine (few_all _ a 40 _ ha (by omega) la).mono ?_
  rintro e w22 ⟨v22, rfl, o22, hb22⟩
  have f3 := U32s.of_own o22 (BA.out)
  obtain ⟨A22, c22, rfl, -, -, -⟩ := f3.open_
  replace ha := ha.keep hb22
  replace hb := hb.keep hb22
  replace hm := hm.keep hb22
  replace hc := hc.keep hb22
  replace HB := Go.Lib.hid (Below.tr HB.out hb22)
  clear hb22
  go_wp2_with fail
  refine (few_all _ b 40 _ hb (by omega) lb).mono ?_
  rintro e w23 ⟨v23, rfl, o23, hb23⟩
  have f4 := U32s.of_own o23 (BB.out)
  obtain ⟨A23, c23, rfl, -, -, -⟩ := f4.open_
  replace ha := ha.keep hb23
  replace hb := hb.keep hb23
  replace hm := hm.keep hb23
  replace hc := hc.keep hb23
  replace f3 := f3.keep hb23
  replace HB := Go.Lib.hid (Below.tr HB.out hb23)
  clear hb23
  go_wp2_with fail
  refine (CX.out.2.2.2.2.2.2.1 _ _ _ f3 f4).mono ?_
  rintro e w24 ⟨rfl, hb24⟩
  replace ha := ha.keep hb24
  replace hb := hb.keep hb24
  replace hm := hm.keep hb24
  replace hc := hc.keep hb24
  replace f3 := f3.keep hb24
  replace f4 := f4.keep hb24
  replace HB := Go.Lib.hid (Below.tr HB.out hb24)
  clear hb24
  clear f3 f4
  go_wp2_with fail
  refine (few_all _ a 40 _ ha (by omega) la).mono ?_
  rintro e w25 ⟨v25, rfl, o25, hb25⟩
  have f3 := U32s.of_own o25 (BA.out)
  obtain ⟨A25, c25, rfl, -, -, -⟩ := f3.open_
  replace ha := ha.keep hb25
  replace hb := hb.keep hb25
  replace hm := hm.keep hb25
  replace hc := hc.keep hb25
  replace HB := Go.Lib.hid (Below.tr HB.out hb25)
  clear hb25
  go_wp2_with fail
  refine (few_all _ b 40 _ hb (by omega) lb).mono ?_
  rintro e w26 ⟨v26, rfl, o26, hb26⟩
  have f4 := U32s.of_own o26 (BB.out)
  obtain ⟨A26, c26, rfl, -, -, -⟩ := f4.open_
  replace ha := ha.keep hb26
  replace hb := hb.keep hb26
  replace hm := hm.keep hb26
  replace hc := hc.keep hb26
  replace f3 := f3.keep hb26
  replace HB := Go.Lib.hid (Below.tr HB.out hb26)
  clear hb26
  go_wp2_with fail
  refine (CQ.out.1 _ _ _ f3 f4).mono ?_
  rintro e w27 ⟨rfl, hb27⟩
  replace ha := ha.keep hb27
  replace hb := hb.keep hb27
  replace hm := hm.keep hb27
  replace hc := hc.keep hb27
  replace f3 := f3.keep hb27
  replace f4 := f4.keep hb27
  replace HB := Go.Lib.hid (Below.tr HB.out hb27)
  clear hb27
  clear f3 f4
  go_wp2_with fail
  refine (CQ.out.2 _ _ _ ha hb).mono ?_
  rintro e w28 ⟨rfl, hb28⟩
  replace ha := ha.keep hb28
  replace hb := hb.keep hb28
  replace hm := hm.keep hb28
  replace hc := hc.keep hb28
  replace HB := Go.Lib.hid (Below.tr HB.out hb28)
  clear hb28
  go_wp2_with fail
  refine (CX.out.2.2.2.2.2.1 _ _ _ hm hc).mono ?_
  rintro e w29 ⟨v29, rfl, o29, hb29⟩
  have hp := U32s.of_own o29 (BA.out)
  obtain ⟨A29, c29, rfl, -, -, -⟩ := hp.open_
  replace ha := ha.keep hb29
  replace hb := hb.keep hb29
  replace hm := hm.keep hb29
  replace hc := hc.keep hb29
  replace HB := Go.Lib.hid (Below.tr HB.out hb29)
  clear hb29
  go_wp2_with fail
  refine (same_true _ _ a a _ hp ha rfl).mono ?_
  rintro e w30 ⟨rfl, hb30⟩
  replace ha := ha.keep hb30
  replace hb := hb.keep hb30
  replace hm := hm.keep hb30
  replace hc := hc.keep hb30
  replace hp := hp.keep hb30
  replace HB := Go.Lib.hid (Below.tr HB.out hb30)
  clear hb30
  go_wp2_with fail
  refine (CL.out _).mono ?_
  rintro e w31 ⟨rfl, hb31⟩
  replace ha := ha.keep hb31
  replace hb := hb.keep hb31
  replace hm := hm.keep hb31
  replace hc := hc.keep hb31
  replace hp := hp.keep hb31
  replace HB := Go.Lib.hid (Below.tr HB.out hb31)
  clear hb31
  go_wp2
  go_ret
  exact ⟨rfl, HB.out⟩
end Go.Proofs.YtjmakafpgfefnaaDoor.Nums
