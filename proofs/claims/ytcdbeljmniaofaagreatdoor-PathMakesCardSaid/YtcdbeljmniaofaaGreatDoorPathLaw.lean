/- PathMakes: the law's walk over what its callees give. PathMakes: the reference's side of the law's walk. What is left are the contracts of the program's own Prepend, Seq, Join and the law's lives. -/
import Derived.Test.YtcdbeljmniaofaaGreatDoorSegRefB

/- PathMakes: the law's walk over what its callees give. -/
namespace Go.Proofs.YtcdbeljmniaofaaGreatDoor.Seg
open Go.RowKit Mem Rise Nums Segm

theorem held_next {W x y : World} {p1 p2 : Addr} {v1 v2 : Value} (h : Below W.heap.size W x ∧ x.cell? p1 = some v1 ∧ x.cell? p2 = some v2) (hb : Below x.heap.size x y) : Below W.heap.size W y ∧ y.cell? p1 = some v1 ∧ y.cell? p2 = some v2 :=
  ⟨far h.1 hb, by rw [hb.cell (block_lt_of_cell h.2.1)]; exact h.2.1, by rw [hb.cell (block_lt_of_cell h.2.2)]; exact h.2.2⟩
/-- Two cells of a new block, and of the one ahead of it. -/
theorem two_new (w : World) (a b x y : Value) (t u : TypeId) : Below w.heap.size w ((w.alloc (.cells #[a, b] t)).alloc (.cells #[x, y] u)) ∧
    ((w.alloc (.cells #[a, b] t)).alloc (.cells #[x, y] u)).cell? ⟨w.heap.size, 0, none⟩ = some a ∧ ((w.alloc (.cells #[a, b] t)).alloc (.cells #[x, y] u)).cell? ⟨w.heap.size, 1, none⟩ = some b ∧
    ((w.alloc (.cells #[a, b] t)).alloc (.cells #[x, y] u)).cell? ⟨w.heap.size + 1, 0, none⟩ = some x ∧ ((w.alloc (.cells #[a, b] t)).alloc (.cells #[x, y] u)).cell? ⟨w.heap.size + 1, 1, none⟩ = some y := by
  refine ⟨((Below.refl _ w).alloc (Nat.le_refl _) _).alloc (by simp) _, ?_, ?_, ?_, ?_⟩ <;> simp [go_sem]
theorem kept {W y : World} {p : Addr} {v : Value} (hb : Below W.heap.size W y) (h : W.cell? p = some v) : y.cell? p = some v := by rw [hb.cell (block_lt_of_cell h)]; exact h

set_option maxRecDepth 100000 in
set_option maxHeartbeats 4000000 in
theorem makes_core (Env : World → Prop) (vl v0 v1 : Value) (l L X Y Z : List Piece) (t0 t1 A B : List Nat) (n0 n1 : Int) (u : Int) (w : World) (hw : IntKind.u32.wrap n0 = u)
    (hl : Segs w vl l) (h0 : U32s w v0 t0) (h1 : U32s w v1 t1) (hA : Hid (∀ y ∈ A, y < 4294967296)) (hB : Hid (∀ y ∈ B, y < 4294967296)) (hE : Env w) (HK : Hid (∀ W W' : World, Env W → Below W.heap.size W W' → Env W'))
    (CF : Hid (∀ v (W : World), Segs W v l → Calls Tryz.prog 4 #[v] W (GivesSegs 36 L W)))
    (CG : Hid (∀ v (W : World), Segs W v L → Calls Tryz.prog 4 #[v] W (GivesSegs 36 L W)))
    (CA : Hid (∀ v (W : World), U32s W v t0 → Calls Tryz.prog 5 #[v, .int .i64 600] W (Gives32 29 A W)))
    (CB : Hid (∀ v (W : World), U32s W v t1 → Calls Tryz.prog 5 #[v, .int .i64 600] W (Gives32 29 B W)))
    (CA2 : Hid (∀ v (W : World), U32s W v A → Calls Tryz.prog 5 #[v, .int .i64 600] W (Gives32 29 A W)))
    (CB2 : Hid (∀ v (W : World), U32s W v B → Calls Tryz.prog 5 #[v, .int .i64 600] W (Gives32 29 B W)))
    (CP : Hid (∀ v (W : World), Segs W v L → Calls Tryz.prog 6 #[v, .int .u32 u, .int .i64 n1] W (TellsSegs X W)))
    (CR : Hid (∀ v (W : World), Segs W v L → Calls Tryz.prog 8 #[v, .int .u32 u, .int .i64 n1] W (TellsSegs X W)))
    (CQ : Hid (∀ v x p (W : World), Segs W v p → Segs W x p → Calls Tryz.prog 7 #[v, x] W (Tells (.bool true) W)))
    (CS : Hid (∀ v (W : World), U32s W v A → Calls Tryz.prog 9 #[v] W (TellsSegs Y W)))
    (CJ0 : Hid (∀ v (W : World), U32s W v A → Calls Tryz.prog 10 #[v, .slice none 0 0] W (TellsSegs Y W)))
    (CJ : Hid (∀ v x (W : World), U32s W v A → U32s W x B → Calls Tryz.prog 11 #[v, x] W (TellsSegs Z W)))
    (CK : Hid (∀ v x (W : World), U32s W v A → U32s W x B → Calls Tryz.prog 10 #[v, x] W (TellsSegs Z W)))
    (CL : Hid (∀ W, Env W → Calls Tryz.prog 12 #[] W (Tells (.bool true) W))) :
    Calls Tryz.prog 3 #[vl, .agg #[.int .i64 n0, .int .i64 n1], .agg #[v0, v1]] w (Tells (.bool true) w) := by
  obtain ⟨hb, c0, c1, d0, d1⟩ := two_new w (.int .i64 n0) (.int .i64 n1) v0 v1 23 25
  obtain ⟨Al, cl, rfl, -, -⟩ := hl.form
  obtain ⟨A0, e0, rfl, -, -, -, -⟩ := h0.open_
  obtain ⟨A1, e1, rfl, -, -, -, -⟩ := h1.open_
  go_enter Tryz.func3, Tryz.ntmps3
  go_wp2_with fail
  replace hl := hl.keep hb
  replace h0 := h0.keep hb
  replace h1 := h1.keep hb
  replace hE := HK.out _ _ hE hb
  generalize (w.alloc (.cells #[.int .i64 n0, .int .i64 n1] 23)).alloc (.cells #[.slice A0 t0.length e0, .slice A1 t1.length e1] 25) = W at hb c0 c1 d0 d1 hl h0 h1 hE ⊢
  refine (CF.out _ _ hl).mono ?_
  rintro e w1 ⟨v1, rfl, o1, hb1⟩
  have g1 := o1.segs
  obtain ⟨A2, c2, rfl⟩ := o1.form
  clear o1 hl CF
  replace c0 := kept hb1 c0
  replace c1 := kept hb1 c1
  replace d0 := kept hb1 d0
  replace d1 := kept hb1 d1
  replace h0 := h0.keep hb1
  replace h1 := h1.keep hb1
  replace hE := HK.out _ _ hE hb1
  replace hb := far hb hb1
  clear hb1
  go_wp2_with fail
  have hS : Below w1.heap.size w1 w1.drew ∧ w1.drew.cell? ⟨w.heap.size + 1, 0, none⟩ = some (.slice A0 t0.length e0) ∧ w1.drew.cell? ⟨w.heap.size + 1, 1, none⟩ = some (.slice A1 t1.length e1) := ⟨(Below.refl _ _).drew, d0, d1⟩
  have HE0 := Go.Lib.hid hS
  have C0 := Go.Lib.hid (CA.out _ _ (h0.keep hS.1))
  have C1 := Go.Lib.hid (fun (y : World) (h : Below w1.heap.size w1 y) => CB.out _ _ (h1.keep h))
  clear h0 h1 hS
  go_region_held3 (fun x => Below w1.heap.size w1 x ∧ x.cell? ⟨w.heap.size + 1, 0, none⟩ = some (.slice A0 t0.length e0) ∧ x.cell? ⟨w.heap.size + 1, 1, none⟩ = some (.slice A1 t1.length e1))
    (first | assumption | exact HE0.out | (trace_state; fail))
    (first
      | (go_at_call 5
         with_reducible refine (C0.out).mono ?_
         rintro e w2 ⟨v2, rfl, oA, hb2⟩
         have hS2 := held_next HE0.out hb2
         obtain ⟨A3, c3, rfl⟩ := own_form oA)
      | (go_at_call 5
         with_reducible refine (C1.out _ hS2.1).mono ?_
         rintro e w3 ⟨v3, rfl, oB, hb3⟩
         have hS3 := held_next hS2 hb3
         obtain ⟨A4, c4, rfl⟩ := own_form oB))
  have f3 := (U32s.of_own oA hA.out).keep hb3
  have f4 := U32s.of_own oB hB.out
  have hb3 := hS3.1
  have hA2 := hA
  have hB2 := hB
  clear oA oB HE0 C0 C1 hS2 hS3 CA CB hA hB
  replace c0 := kept hb3 c0
  replace c1 := kept hb3 c1
  replace g1 := g1.keep hb3
  replace hE := HK.out _ _ hE hb3
  replace hb := far hb hb3
  clear d0 d1
  go_wp2_with fail
  have hS : Below w3.heap.size w3 w3.drew ∧ w3.drew.cell? ⟨w.heap.size, 0, none⟩ = some (.int .i64 n0) ∧ w3.drew.cell? ⟨w.heap.size, 1, none⟩ = some (.int .i64 n1) := ⟨(Below.refl _ _).drew, c0, c1⟩
  have HE0 := Go.Lib.hid hS
  have C0 := Go.Lib.hid (CG.out _ _ (g1.keep hS.1))
  clear hS
  go_region_held3 (fun x => Below w3.heap.size w3 x ∧ x.cell? ⟨w.heap.size, 0, none⟩ = some (.int .i64 n0) ∧ x.cell? ⟨w.heap.size, 1, none⟩ = some (.int .i64 n1))
    (first | assumption | exact HE0.out | (trace_state; fail))
    (first
      | (go_at_call 4
         with_reducible refine (C0.out).mono ?_
         rintro e w4 ⟨v4, rfl, oL, hb4⟩
         have hS4 := held_next HE0.out hb4
         have hL4 := oL.segs
         obtain ⟨A5, c5, rfl⟩ := oL.form)
      | (go_at_call 6
         with_reducible refine (CP.out _ _ hL4).mono ?_
         rintro e w5 ⟨v5, rfl, hX, hb5⟩
         have hS5 := held_next hS4 hb5
         obtain ⟨A6, c6, rfl, -, -⟩ := hX.form))
  have hb5 := hS5.1
  clear hS4 hS5 HE0 C0 hL4 CP
  replace c0 := kept hb5 c0
  replace c1 := kept hb5 c1
  replace g1 := g1.keep hb5
  replace f3 := f3.keep hb5
  replace f4 := f4.keep hb5
  replace hE := HK.out _ _ hE hb5
  replace hb := far hb hb5
  clear hb5
  go_wp2_with fail
  refine (CR.out _ _ g1).mono ?_
  rintro e w6 ⟨v6, rfl, hR, hb6⟩
  obtain ⟨A6, c6, rfl, -, -⟩ := hR.form
  replace g1 := g1.keep hb6
  replace f3 := f3.keep hb6
  replace f4 := f4.keep hb6
  replace hX := hX.keep hb6
  replace hE := HK.out _ _ hE hb6
  replace hb := far hb hb6
  clear hb6
  clear c0 c1
  clear g1
  go_wp2_with fail
  refine (CQ.out _ _ _ _ hX hR).mono ?_
  rintro e w7 ⟨rfl, hb7⟩
  replace f3 := f3.keep hb7
  replace f4 := f4.keep hb7
  replace hX := hX.keep hb7
  replace hR := hR.keep hb7
  replace hE := HK.out _ _ hE hb7
  replace hb := far hb hb7
  clear hb7
  clear hX hR
  go_wp2_with fail
  refine (CA2.out _ _ f3).mono ?_
  rintro e w8 ⟨v8, rfl, o8, hb8⟩
  have f6 := U32s.of_own o8 (hA2.out)
  obtain ⟨A8, c8, rfl⟩ := own_form o8
  clear o8
  replace f3 := f3.keep hb8
  replace f4 := f4.keep hb8
  replace hE := HK.out _ _ hE hb8
  replace hb := far hb hb8
  clear hb8
  go_wp2_with fail
  refine (CS.out _ _ f6).mono ?_
  rintro e w9 ⟨v9, rfl, hY, hb9⟩
  obtain ⟨A9, c9, rfl, -, -⟩ := hY.form
  replace f3 := f3.keep hb9
  replace f4 := f4.keep hb9
  replace f6 := f6.keep hb9
  replace hE := HK.out _ _ hE hb9
  replace hb := far hb hb9
  clear hb9
  clear f6
  go_wp2_with fail
  refine (CJ0.out _ _ f3).mono ?_
  rintro e w10 ⟨v10, rfl, hY2, hb10⟩
  obtain ⟨A10, c10, rfl, -, -⟩ := hY2.form
  replace f3 := f3.keep hb10
  replace f4 := f4.keep hb10
  replace hY := hY.keep hb10
  replace hE := HK.out _ _ hE hb10
  replace hb := far hb hb10
  clear hb10
  go_wp2_with fail
  refine (CQ.out _ _ _ _ hY hY2).mono ?_
  rintro e w11 ⟨rfl, hb11⟩
  replace f3 := f3.keep hb11
  replace f4 := f4.keep hb11
  replace hY := hY.keep hb11
  replace hY2 := hY2.keep hb11
  replace hE := HK.out _ _ hE hb11
  replace hb := far hb hb11
  clear hb11
  clear hY hY2
  go_wp2_with fail
  refine (CA2.out _ _ f3).mono ?_
  rintro e w12 ⟨v12, rfl, o12, hb12⟩
  have f7 := U32s.of_own o12 (hA2.out)
  obtain ⟨A12, c12, rfl⟩ := own_form o12
  clear o12
  replace f3 := f3.keep hb12
  replace f4 := f4.keep hb12
  replace hE := HK.out _ _ hE hb12
  replace hb := far hb hb12
  clear hb12
  go_wp2_with fail
  refine (CB2.out _ _ f4).mono ?_
  rintro e w13 ⟨v13, rfl, o13, hb13⟩
  have f8 := U32s.of_own o13 (hB2.out)
  obtain ⟨A13, c13, rfl⟩ := own_form o13
  clear o13
  replace f3 := f3.keep hb13
  replace f4 := f4.keep hb13
  replace f7 := f7.keep hb13
  replace hE := HK.out _ _ hE hb13
  replace hb := far hb hb13
  clear hb13
  go_wp2_with fail
  refine (CJ.out _ _ _ f7 f8).mono ?_
  rintro e w14 ⟨v14, rfl, hZ, hb14⟩
  obtain ⟨A14, c14, rfl, -, -⟩ := hZ.form
  replace f3 := f3.keep hb14
  replace f4 := f4.keep hb14
  replace f7 := f7.keep hb14
  replace f8 := f8.keep hb14
  replace hE := HK.out _ _ hE hb14
  replace hb := far hb hb14
  clear hb14
  clear f7 f8
  go_wp2_with fail
  refine (CK.out _ _ _ f3 f4).mono ?_
  rintro e w15 ⟨v15, rfl, hZ2, hb15⟩
  obtain ⟨A15, c15, rfl, -, -⟩ := hZ2.form
  replace f3 := f3.keep hb15
  replace f4 := f4.keep hb15
  replace hZ := hZ.keep hb15
  replace hE := HK.out _ _ hE hb15
  replace hb := far hb hb15
  clear hb15
  go_wp2_with fail
  refine (CQ.out _ _ _ _ hZ hZ2).mono ?_
  rintro e w16 ⟨rfl, hb16⟩
  replace f3 := f3.keep hb16
  replace f4 := f4.keep hb16
  replace hZ := hZ.keep hb16
  replace hZ2 := hZ2.keep hb16
  replace hE := HK.out _ _ hE hb16
  replace hb := far hb hb16
  clear hb16
  clear hZ hZ2
  go_wp2_with fail
  refine (CL.out _ hE).mono ?_
  rintro e w17 ⟨rfl, hb17⟩
  replace f3 := f3.keep hb17
  replace f4 := f4.keep hb17
  replace hE := HK.out _ _ hE hb17
  replace hb := far hb hb17
  clear hb17
  go_wp2_with fail
  go_ret
  exact ⟨rfl, hb⟩
end Go.Proofs.YtcdbeljmniaofaaGreatDoor.Seg


/- PathMakes: the reference's side of the law's walk. What is left are the contracts of the program's own Prepend, Seq, Join and the law's lives. -/
namespace Go.Proofs.YtcdbeljmniaofaaGreatDoor.Seg
open Go.RowKit Mem Rise Nums Segm

theorem few_len (l : List Piece) : (fewS l).length ≤ 12 := by unfold fewS; rw [List.length_map]; exact List.length_take_le 12 l
theorem few_fit (l : List Piece) : FitS 300 (fewS l) := fun s hs => by
  obtain ⟨x, _, rfl⟩ := List.mem_map.1 hs
  exact List.length_take_le 300 x.2
theorem few_few (l : List Piece) : fewS (fewS l) = fewS l := by
  have h1 : (fewS l).take 12 = fewS l := List.take_of_length_le (few_len l)
  have h2 : fewS (fewS l) = ((fewS l).take 12).map fewOne := rfl
  rw [h2, h1]
  conv => rhs; rw [← List.map_id (fewS l)]
  refine List.map_congr_left fun s hs => ?_
  unfold fewOne
  rw [List.take_of_length_le (few_fit l s hs)]
  rfl
theorem bulk_fit : ∀ (p : List Piece) (m : Nat), FitS m p → bulk p ≤ p.length * (m + 1)
  | [], m, _ => by simp [bulk]
  | s :: p, m, h => by
    have h1 := bulk_fit p m fun x hx => h x (List.mem_cons_of_mem _ hx)
    have h2 := h s (List.mem_cons_self ..)
    have h3 : bulk (s :: p) = s.2.length + 1 + bulk p := by simp [bulk]
    rw [h3, List.length_cons, Nat.succ_mul]
    omega
theorem wrap_u32 (n : Int) : ∃ u : Nat, u < 4294967296 ∧ IntKind.u32.wrap n = (u : Int) := by
  have h : 0 ≤ IntKind.u32.wrap n ∧ IntKind.u32.wrap n ≤ 4294967295 := by
    simp only [IntKind.wrap, IntKind.signed, IntKind.bits]
    simp
    omega
  obtain ⟨u, e⟩ := Int.eq_ofNat_of_zero_le h.1
  exact ⟨u, by omega, e⟩

set_option maxRecDepth 100000 in
theorem makes_of (Env : World → Prop) (vl v0 v1 : Value) (l : List Piece) (t0 t1 : List Nat) (n0 n1 : Int) (w : World)
    (hl : Segs w vl l) (h0 : U32s w v0 t0) (h1 : U32s w v1 t1) (hE : Env w) (HK : ∀ W W' : World, Env W → Below W.heap.size W W' → Env W')
    (CP : ∀ v (p : List Piece) (n : Nat) (k : Int) (W : World), Segs W v p → p.length ≤ 12 → FitS 300 p → n < 4294967296 → Calls Tryz.prog 6 #[v, .int .u32 n, .int .i64 k] W (TellsSegs (prependS p n (clampT k)) W))
    (CS : ∀ v (a : List Nat) (W : World), U32s W v a → a.length ≤ 600 → Calls Tryz.prog 9 #[v] W (TellsSegs (joinP a []) W))
    (CJ : ∀ v x (a b : List Nat) (W : World), U32s W v a → U32s W x b → a.length ≤ 600 → b.length ≤ 600 → Calls Tryz.prog 11 #[v, x] W (TellsSegs (joinP a b) W))
    (CL : ∀ W, Env W → Calls Tryz.prog 12 #[] W (Tells (.bool true) W)) :
    Calls Tryz.prog 3 #[vl, .agg #[.int .i64 n0, .int .i64 n1], .agg #[v0, v1]] w (Tells (.bool true) w) := by
  obtain ⟨u, hu, hw⟩ := wrap_u32 n0
  have la : (t0.take 600).length ≤ 600 := List.length_take_le 600 t0
  have lb : (t1.take 600).length ≤ 600 := List.length_take_le 600 t1
  have ta : (t0.take 600).take 600 = t0.take 600 := List.take_of_length_le la
  have tb : (t1.take 600).take 600 = t1.take 600 := List.take_of_length_le lb
  have hbk : bulk (fewS l) ≤ 40000 := by
    have h2 := bulk_fit (fewS l) 300 (few_fit l)
    have h3 := few_len l
    have h4 : (fewS l).length * (300 + 1) ≤ 12 * 301 := Nat.mul_le_mul_right 301 h3
    omega
  exact makes_core Env vl v0 v1 l (fewS l) (prependS (fewS l) u (clampT n1)) (joinP (t0.take 600) []) (joinP (t0.take 600) (t1.take 600)) t0 t1 (t0.take 600) (t1.take 600) n0 n1 u w hw hl h0 h1
    (Go.Lib.hid fun y hy => h0.2 y (List.mem_of_mem_take hy)) (Go.Lib.hid fun y hy => h1.2 y (List.mem_of_mem_take hy)) hE (Go.Lib.hid HK)
    (Go.Lib.hid fun v W h => fewSegs_any v l W h)
    (Go.Lib.hid fun v W h => by have := fewSegs_any v (fewS l) W h; rwa [few_few] at this)
    (Go.Lib.hid fun v W h => few_any v t0 600 W h (by omega)) (Go.Lib.hid fun v W h => few_any v t1 600 W h (by omega))
    (Go.Lib.hid fun v W h => by have := few_any v _ 600 W h (by omega); rwa [ta] at this) (Go.Lib.hid fun v W h => by have := few_any v _ 600 W h (by omega); rwa [tb] at this)
    (Go.Lib.hid fun v W h => CP v _ u n1 W h (few_len l) (few_fit l) hu)
    (Go.Lib.hid fun v W h => (prepend_any v _ u n1 W h hbk (fun s hs => Nat.le_trans (few_fit l s hs) (by omega)) hu).mono fun _ _ h => TellsSegs.of_gives h)
    (Go.Lib.hid fun v x p W h1 h2 => by have := same_any v x p p W h1 h2; rwa [decide_eq_true rfl] at this)
    (Go.Lib.hid fun v W h => CS v _ W h la)
    (Go.Lib.hid fun v W h => (join_any v _ _ [] W h (U32s.nil W) (by omega) (by simp)).mono fun _ _ h => TellsSegs.of_gives h)
    (Go.Lib.hid fun v x W h1 h2 => CJ v x _ _ W h1 h2 la lb)
    (Go.Lib.hid fun v x W h1 h2 => (join_any v x _ _ W h1 h2 (by omega) (by omega)).mono fun _ _ h => TellsSegs.of_gives h)
    (Go.Lib.hid CL)
end Go.Proofs.YtcdbeljmniaofaaGreatDoor.Seg
