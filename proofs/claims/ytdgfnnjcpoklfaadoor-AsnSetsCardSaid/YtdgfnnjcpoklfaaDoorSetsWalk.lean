/- AsnSets: the law's walk: the set of any numbers, with and without any other one. -/
import Derived.Test.YtdgfnnjcpoklfaaDoorSetKit
import Derived.Test.YtdgfnnjcpoklfaaDoorSetMake2
namespace Go.Proofs.YtdgfnnjcpoklfaaDoor.Nums
open Go.RowKit Mem Rise

theorem with_put {a : List Nat} (n : Nat) (ra : rising a) : kept (fun x y => x || y) a [n] = put a n :=
  rising_ext (rising_kept _ ra (List.pairwise_singleton _ _)) (rising_put n ra) fun x => by
    rw [mem_kept _ ra (List.pairwise_singleton _ _), mem_put]
    by_cases h1 : x ∈ a <;> by_cases h2 : x = n <;> simp [h1, h2]
theorem bound_put {a : List Nat} {n : Nat} (h : n < 4294967296) (ha : ∀ x ∈ a, x < 4294967296) : ∀ x ∈ put a n, x < 4294967296 := fun x hx => by
  rcases (mem_put a n x).1 hx with e | hx
  · rw [e]; exact h
  · exact ha x hx

set_option maxRecDepth 100000 in
set_option maxHeartbeats 4000000 in
theorem sets_walk (va : Value) (l : List Nat) (n : Nat) (w : World) (hl0 : U32s w va l) (hn : n < 4294967296) :
    Calls Tryd.prog 3 #[va, .int .u32 n] w (Tells (.bool true) w) := by
  have CF := Go.Lib.hid (few_any va l 40 w hl0 (by omega))
  have bl : ∀ n ∈ l.take 40, n < 4294967296 := fun n hn => hl0.2 n (List.mem_of_mem_take hn)
  have tl : (l.take 40).length ≤ 40 := List.length_take_le 40 l
  generalize l.take 40 = l1 at CF bl tl
  have hq : decide (l1 = setOf l1) = decide (rising l1) := by
    have := setOf_iff l1
    by_cases h : rising l1
    · simp [h, this.2 h]
    · have : ¬ l1 = setOf l1 := fun e => h (this.1 e.symm)
      simp [h, this]
  obtain ⟨S, hS⟩ : ∃ S, S = setOf l1 := ⟨_, rfl⟩
  have rS : rising S := hS ▸ rising_setOf _
  have bS : ∀ n ∈ S, n < 4294967296 := hS ▸ bound_setOf bl
  have lS : S.length ≤ 40 := by
    rw [hS]
    have := length_setOf l1
    omega
  have C1 : ∀ (v : Value) (W : World), U32s W v l1 → Calls Tryd.prog 9 #[v] W (Tells32 S W) := fun v W h => hS ▸ refSet_any v _ W h (by omega)
  have C2 : ∀ (v : Value) (W : World), U32s W v l1 → Calls Tryd.prog 10 #[v] W (Tells32 S W) := fun v W h => hS ▸ Srt.set_any v _ W h (by omega)
  have C3 : ∀ (v : Value) (W : World), U32s W v l1 → Calls Tryd.prog 12 #[v] W (Tells (.bool (decide (rising l1))) W) := fun v W h => is_any v _ W h
  have C4 : ∀ (v x : Value) (W : World), U32s W v l1 → U32s W x S → Calls Tryd.prog 11 #[v, x] W (Tells (.bool (decide (rising l1))) W) := fun v x W h1 h2 => hq ▸ hS ▸ refSame_any v x _ _ W h1 h2
  have C5 : ∀ (v : Value) (W : World), U32s W v S → Calls Tryd.prog 13 #[v, .int .u32 n] W (fun e w' => e = .returned (.bool (decide (n ∈ S))) ∧ W = w') := fun v W h => has_any v _ n W h rS (by omega)
  have C6 : ∀ (v : Value) (W : World), U32s W v S → Calls Tryd.prog 14 #[v, .int .u32 n] W (fun e w' => e = .returned (.bool (decide (n ∈ S))) ∧ W = w') := fun v W h => refHas_any v _ n W h
  have C7 : ∀ (v : Value) (W : World), U32s W v S → Calls Tryd.prog 15 #[v, .int .u32 n] W (Gives32 23 (put S n) W) := fun v W h => with_put n rS ▸ with_any v _ n W h hn (by omega)
  have C8 : ∀ (v : Value) (W : World), U32s W v S → Calls Tryd.prog 16 #[v, .int .u32 n] W (Tells32 (put S n) W) := fun v W h => refPut_any v _ n W h hn (by omega)
  have C9 : ∀ (v : Value) (W : World), U32s W v S → Calls Tryd.prog 17 #[v, .int .u32 n] W (Gives32 23 (pick S [n] false) W) := fun v W h => two_minus rS (List.pairwise_singleton _ n) ▸ without_any v _ n W h hn (by omega)
  have C10 : ∀ (v x : Value) (W : World), U32s W v S → U32s W x [n] → Calls Tryd.prog 18 #[v, x, .bool false] W (Gives32 23 (pick S [n] false) W) := fun v x W h1 h2 => refPick_any v x _ _ false W h1 h2 (by omega)
  have BL := Go.Lib.hid bl
  have BS := Go.Lib.hid bS
  have BP := Go.Lib.hid (bound_put hn bS)
  have BM := Go.Lib.hid (bound_pick (b := [n]) (is := false) bS)
  have CX := Go.Lib.hid (And.intro C1 (And.intro C2 (And.intro C3 (And.intro C4 (And.intro C5 (And.intro C6 (And.intro C7 (And.intro C8 (And.intro C9 C10)))))))))
  have CL := Go.Lib.hid lives_any
  clear C1 C2 C3 C4 C5 C6 C7 C8 C9 C10 bl bS hS rS hq
  generalize decide (rising l1) = q at CX
  generalize decide (n ∈ S) = h at CX
  generalize put S n = P at CX BP
  generalize pick S [n] false = M at CX BM
  obtain ⟨Al, cl, rfl, -, -, -⟩ := hl0.open_
  have HB := Go.Lib.hid (Below.refl w.heap.size w)
  go_enter Tryd.func3, Tryd.ntmps3
  go_wp2_with fail
  refine (CF.out).mono ?_
  rintro e w1 ⟨v1, rfl, o1, hb1⟩
  have f1 := U32s.of_own o1 (BL.out)
  obtain ⟨A1, c1, rfl, -, -, -⟩ := f1.open_
  replace hl0 := hl0.keep hb1
  replace HB := Go.Lib.hid (Below.tr HB.out hb1)
  clear hb1
  clear hl0
  go_wp2_with fail
  refine (CX.out.1 _ _ f1).mono ?_
  rintro e w2 ⟨v2, rfl, hs, hb2⟩
  obtain ⟨A2, c2, rfl, -, -, -⟩ := hs.open_
  replace f1 := f1.keep hb2
  replace HB := Go.Lib.hid (Below.tr HB.out hb2)
  clear hb2
  go_wp2_with fail
  refine (few_all _ l1 40 _ f1 (by omega) tl).mono ?_
  rintro e w3 ⟨v3, rfl, o3, hb3⟩
  have f3 := U32s.of_own o3 (BL.out)
  obtain ⟨A3, c3, rfl, -, -, -⟩ := f3.open_
  replace f1 := f1.keep hb3
  replace hs := hs.keep hb3
  replace HB := Go.Lib.hid (Below.tr HB.out hb3)
  clear hb3
  go_wp2_with fail
  refine (CX.out.2.1 _ _ f3).mono ?_
  rintro e w4 ⟨v4, rfl, hx, hb4⟩
  obtain ⟨A4, c4, rfl, -, -, -⟩ := hx.open_
  replace f1 := f1.keep hb4
  replace hs := hs.keep hb4
  replace f3 := f3.keep hb4
  replace HB := Go.Lib.hid (Below.tr HB.out hb4)
  clear hb4
  clear f3
  go_wp2_with fail
  refine (same_true _ _ S S _ hx hs rfl).mono ?_
  rintro e w5 ⟨rfl, hb5⟩
  replace f1 := f1.keep hb5
  replace hs := hs.keep hb5
  replace hx := hx.keep hb5
  replace HB := Go.Lib.hid (Below.tr HB.out hb5)
  clear hb5
  clear hx
  go_wp2_with fail
  refine (few_all _ l1 40 _ f1 (by omega) tl).mono ?_
  rintro e w6 ⟨v6, rfl, o6, hb6⟩
  have f3 := U32s.of_own o6 (BL.out)
  obtain ⟨A6, c6, rfl, -, -, -⟩ := f3.open_
  replace f1 := f1.keep hb6
  replace hs := hs.keep hb6
  replace HB := Go.Lib.hid (Below.tr HB.out hb6)
  clear hb6
  go_wp2_with fail
  refine (CX.out.2.2.1 _ _ f3).mono ?_
  rintro e w7 ⟨rfl, hb7⟩
  replace f1 := f1.keep hb7
  replace hs := hs.keep hb7
  replace f3 := f3.keep hb7
  replace HB := Go.Lib.hid (Below.tr HB.out hb7)
  clear hb7
  clear f3
  go_wp2_with fail
  refine (CX.out.2.2.2.1 _ _ _ f1 hs).mono ?_
  rintro e w8 ⟨rfl, hb8⟩
  replace f1 := f1.keep hb8
  replace hs := hs.keep hb8
  replace HB := Go.Lib.hid (Below.tr HB.out hb8)
  clear hb8
  clear f1
  go_wp2_with fail
  refine (few_all _ S 40 _ hs (by omega) lS).mono ?_
  rintro e w9 ⟨v9, rfl, o9, hb9⟩
  have f3 := U32s.of_own o9 (BS.out)
  obtain ⟨A9, c9, rfl, -, -, -⟩ := f3.open_
  replace hs := hs.keep hb9
  replace HB := Go.Lib.hid (Below.tr HB.out hb9)
  clear hb9
  go_wp2_with fail
  refine (CX.out.2.2.2.2.1 _ _ f3).mono ?_
  rintro e w10 ⟨rfl, rfl⟩
  clear f3
  go_wp2_with fail
  refine (CX.out.2.2.2.2.2.1 _ _ hs).mono ?_
  rintro e w11 ⟨rfl, rfl⟩
  go_wp2_with fail
  refine (few_all _ S 40 _ hs (by omega) lS).mono ?_
  rintro e w12 ⟨v12, rfl, o12, hb12⟩
  have f3 := U32s.of_own o12 (BS.out)
  obtain ⟨A12, c12, rfl, -, -, -⟩ := f3.open_
  replace hs := hs.keep hb12
  replace HB := Go.Lib.hid (Below.tr HB.out hb12)
  clear hb12
  go_wp2_with fail
  refine (CX.out.2.2.2.2.2.2.1 _ _ f3).mono ?_
  rintro e w13 ⟨v13, rfl, o13, hb13⟩
  have hp := U32s.of_own o13 (BP.out)
  obtain ⟨A13, c13, rfl, -, -, -⟩ := hp.open_
  replace hs := hs.keep hb13
  replace f3 := f3.keep hb13
  replace HB := Go.Lib.hid (Below.tr HB.out hb13)
  clear hb13
  clear f3
  go_wp2_with fail
  refine (CX.out.2.2.2.2.2.2.2.1 _ _ hs).mono ?_
  rintro e w14 ⟨v14, rfl, hr, hb14⟩
  obtain ⟨A14, c14, rfl, -, -, -⟩ := hr.open_
  replace hs := hs.keep hb14
  replace hp := hp.keep hb14
  replace HB := Go.Lib.hid (Below.tr HB.out hb14)
  clear hb14
  go_wp2_with fail
  refine (same_true _ _ P P _ hp hr rfl).mono ?_
  rintro e w15 ⟨rfl, hb15⟩
  replace hs := hs.keep hb15
  replace hp := hp.keep hb15
  replace hr := hr.keep hb15
  replace HB := Go.Lib.hid (Below.tr HB.out hb15)
  clear hb15
  clear hp hr
  go_wp2_with fail
  refine (few_all _ S 40 _ hs (by omega) lS).mono ?_
  rintro e w16 ⟨v16, rfl, o16, hb16⟩
  have f3 := U32s.of_own o16 (BS.out)
  obtain ⟨A16, c16, rfl, -, -, -⟩ := f3.open_
  replace hs := hs.keep hb16
  replace HB := Go.Lib.hid (Below.tr HB.out hb16)
  clear hb16
  go_wp2_with fail
  refine (CX.out.2.2.2.2.2.2.2.2.1 _ _ f3).mono ?_
  rintro e w17 ⟨v17, rfl, o17, hb17⟩
  have hp := U32s.of_own o17 (BM.out)
  obtain ⟨A17, c17, rfl, -, -, -⟩ := hp.open_
  replace hs := hs.keep hb17
  replace f3 := f3.keep hb17
  replace HB := Go.Lib.hid (Below.tr HB.out hb17)
  clear hb17
  clear f3
  go_wp2_with fail
  have hb18 : Below w17.heap.size w17 (w17.alloc (.cells #[.int .u32 n] 23)) := (Below.refl _ _).alloc (Nat.le_refl _) _
  have h1 := U32s.one w17 n 23 hn
  have HZ := Go.Lib.hid (show w17.heap.size = w17.heap.size from rfl)
  refine (CX.out.2.2.2.2.2.2.2.2.2 _ _ _ (hs.keep hb18) h1).mono ?_
  replace hs := hs.keep hb18
  replace hp := hp.keep hb18
  replace HB := Go.Lib.hid (Below.tr HB.out hb18)
  clear hb18
  clear h1 HZ
  rintro e w19 ⟨v19, rfl, o19, hb19⟩
  have hr := U32s.of_own o19 (BM.out)
  obtain ⟨A19, c19, rfl, -, -, -⟩ := hr.open_
  replace hs := hs.keep hb19
  replace hp := hp.keep hb19
  replace HB := Go.Lib.hid (Below.tr HB.out hb19)
  clear hb19
  go_wp2_with fail
  refine (same_true _ _ M M _ hp hr rfl).mono ?_
  rintro e w20 ⟨rfl, hb20⟩
  replace hs := hs.keep hb20
  replace hp := hp.keep hb20
  replace hr := hr.keep hb20
  replace HB := Go.Lib.hid (Below.tr HB.out hb20)
  clear hb20
  clear hp hr
  go_wp2_with fail
  refine (CL.out _).mono ?_
  rintro e w21 ⟨rfl, hb21⟩
  replace hs := hs.keep hb21
  replace HB := Go.Lib.hid (Below.tr HB.out hb21)
  clear hb21
  go_wp2
  go_ret
  exact ⟨rfl, HB.out⟩
end Go.Proofs.YtdgfnnjcpoklfaaDoor.Nums
