/- The reference's Put of rows: a prefix that is new; Put as a whole. -/
import Derived.Test.YtpcahgnibdampaaP06
import Derived.Deep.DrawnRows
namespace Go.Proofs.Ytpcahgnibdampaa.Tri
open Go.RowKit Mem PR Pfx
attribute [local go_sem ↓] Go.wp_at_zero Go.wp_at_succ
theorem put_end {w w' w3 : World} {v : Value} {l R : List Ent} {p : Pf} {x : Int} {v0 : Value} {k : Nat} {t : TypeId} (hown : w3.ownsRow w'.heap.size t 3 v (l.length + 1) ([] ++ ecells (l.take k) ++ [.int .u32 p.a, .int .i64 p.n, .int .i64 x] ++ ecells (l.drop k)))
    (hk : k ≤ l.length) (hm : R = l.take k ++ ⟨p, x⟩ :: l.drop k) (he : Eoks R) (hb : Below w.heap.size w w') (hb2 : Below w'.heap.size w' w3) : RowsF v0 R w (.returned v) w3 := by
  refine rows_end hown ?_ ?_ he rfl hb hb2
  · rw [hm, List.length_append, List.length_cons, List.length_take, List.length_drop]; omega
  · rw [hm, ecells_append, ecells_cons]; simp [ecell]
set_option maxRecDepth 100000 in
set_option maxHeartbeats 16000000 in
theorem rput_new (v : Value) (l : List Ent) (p : Pf) (x : Int) (w : World) (hv : Rws w v l) (hn : posE l p = none) (hp : p.ok) (hx : (Lit.int .i64 x).wf = true) (hl : l.length ≤ 1000) :
    Calls Try.prog 28 #[v, pV p, .int .i64 x] w (RowsF v (putE l p x) w) := by
  obtain ⟨i0, E⟩ := elemE
  have HV := Go.Lib.hid hv
  have CA := Go.Lib.hid (fun (W : World) (h : Rws W v l) => at_any v l p W h)
  rw [hn] at CA
  have HN := Go.Lib.hid (pos_no hn)
  have HK := Go.Lib.hid (eoks_put l p x hv.2 ⟨hp, hx⟩)
  have HPI := Go.Lib.hid (fun (k : Nat) (h0 : k ≤ l.length) (h1 : ∀ e ∈ l.take k, ltP e.p p) (h2 : ∀ e, l[k]? = some e → ¬ ltP e.p p) => put_in l p x k (pos_no hn) h0 h1 h2)
  obtain ⟨A, c, rfl, hlc, hc⟩ := hv.form
  generalize putE l p x = R at *
  obtain ⟨qa, qn⟩ := p
  unfold pV at CA ⊢
  dsimp only at CA ⊢
  have hb0 := below_new w (.cells #[.int .u32 (qa : Int), .int .i64 qn] 25)
  obtain ⟨c0, c1⟩ := cells_two w (.int .u32 (qa : Int)) (.int .i64 qn) 25
  have hlt0 : w.heap.size < (w.alloc (.cells #[.int .u32 (qa : Int), .int .i64 qn] 25)).heap.size := by simp
  have HB := Go.Lib.hid hb0
  have HV0 := Go.Lib.hid (hv.keep hb0)
  have HLT := Go.Lib.hid hlt0
  have hne : decide ((0 : Int) ≤ -1) = false := by decide
  simp only [idxV] at CA
  clear hn hv hb0 hp hlt0
  go_enter Try.func28, Try.ntmps28
  go_wp2_with (go_at_call 9; refine (CA.out _ HV0.out).mono ?_; rintro e w1 ⟨rfl, hb1⟩; have HB1 := Go.Lib.hid (HB.out.trans (hb1.mono HB.out.size)); have d0 := (hb1.cell (p := ⟨w.heap.size, 0, none⟩) HLT.out).trans c0; have d1 := (hb1.cell (p := ⟨w.heap.size, 1, none⟩) HLT.out).trans c1; have HW := Go.Lib.hid (Nat.lt_of_lt_of_le HLT.out hb1.size); clear hb1 c0 c1)
  have HKP := Go.Lib.hid (fun (W : World) (h : Below w1.heap.size w1 W) => (⟨(h.cell (p := ⟨w.heap.size, 0, none⟩) HW.out).trans d0, (h.cell (p := ⟨w.heap.size, 1, none⟩) HW.out).trans d1⟩ : W.cell? ⟨w.heap.size, 0, none⟩ = some (.int .u32 qa) ∧ W.cell? ⟨w.heap.size, 1, none⟩ = some (.int .i64 qn)))
  clear d0 d1
  go_loopw [9] (fun v9 wx => ∃ i : Nat, i ≤ l.length ∧ v9 = .int .i64 i ∧ Hid (∀ e ∈ l.take i, ltP e.p ⟨qa, qn⟩) ∧ Hid (Below w1.heap.size w1 wx)) (fun v9 _ => l.length - (intOf v9).toNat)
  case atStart => exact ⟨0, Nat.zero_le _, rfl, Go.Lib.hid (by simp), Go.Lib.hid (Below.refl _ _)⟩
  case round =>
    obtain ⟨i, hi, rfl, hah, hb⟩ := hrel
    have BI := Go.Lib.hid (HB1.out.trans (hb.out.mono HB1.out.size))
    have t0 : (0 : Int) ≤ (i : Int) := by omega
    have hR1 := (HV.out).1.prefix_ (k := i) (by omega)
    rw [ecells_take] at hR1
    have HR1 := Go.Lib.hid hR1
    have u1 : (i : Int) ≤ (c : Int) := by omega
    have u2 : (i : Int) ≤ (l.length : Int) := by omega
    clear hR1
    by_cases hlt : i < l.length
    · obtain ⟨r, hr⟩ : ∃ r, l[i]? = some r := ⟨_, List.getElem?_eq_getElem hlt⟩
      obtain ⟨bl, off, rfl, hbl, k0, k1, _⟩ := (HV.out).at_ hr
      have t1 : (i : Int) < (l.length : Int) := by omega
      have CM := Go.Lib.hid (fun (W : World) => refCmp_any r.p.a r.p.n qa qn W)
      have HS := Go.Lib.hid (fun (W : World) (h : Below wr.heap.size wr W) => (⟨((BI.out.trans (h.mono BI.out.size)).cell (p := ⟨bl, off + i * 3, none⟩) hbl).trans k0, ((BI.out.trans (h.mono BI.out.size)).cell (p := ⟨bl, off + i * 3 + 1, none⟩) hbl).trans k1, (HKP.out W (hb.out.trans (h.mono hb.out.size))).1, (HKP.out W (hb.out.trans (h.mono hb.out.size))).2⟩ :
        W.cell? ⟨bl, off + i * 3, none⟩ = some (.int .u32 r.p.a) ∧ W.cell? ⟨bl, off + i * 3 + 1, none⟩ = some (.int .i64 r.p.n) ∧ W.cell? ⟨w.heap.size, 0, none⟩ = some (.int .u32 qa) ∧ W.cell? ⟨w.heap.size, 1, none⟩ = some (.int .i64 qn)))
      have hS0 := HS.out _ (Below.refl wr.heap.size wr).drew
      have HRR := Go.Lib.hid hr
      have hR2 := cut3_at (HV.out).1 (k := i) (by omega)
      rw [ecells_drop] at hR2
      have HR2 := Go.Lib.hid hR2
      clear k0 k1 hr hbl hR2
      have hcl : decide (cmpP r.p.a r.p.n qa qn < 0) = decide (ltP r.p ⟨qa, qn⟩) := decide_eq_decide.2 (cmp_lt (p := r.p) (q := ⟨qa, qn⟩))
      cases hcc : decide (ltP r.p ⟨qa, qn⟩) with
      | true =>
        have HLTP := Go.Lib.hid (of_decide_eq_true hcc)
        rw [hcc] at hcl
        obtain ⟨⟨ra, rn⟩, rv⟩ := r
        dsimp only at hcl CM HS hS0
        clear hcc
        generalize cmpP ra rn qa qn = T at CM hcl
        go_wp2
        go_region_held3 (fun w' => w'.cell? ⟨bl, off + i * 3, none⟩ = some (.int .u32 ra) ∧ w'.cell? ⟨bl, off + i * 3 + 1, none⟩ = some (.int .i64 rn) ∧ w'.cell? ⟨w.heap.size, 0, none⟩ = some (.int .u32 qa) ∧ w'.cell? ⟨w.heap.size, 1, none⟩ = some (.int .i64 qn)) (assumption) (first
          | (go_at_call 50; refine (CM.out _).mono ?_; rintro e w2 ⟨rfl, hb2⟩; have hb3 := ((Below.refl wr.heap.size wr).drew).trans (hb2.mono ((Below.refl wr.heap.size wr).drew).size); have H2 := Go.Lib.hid hb3; have hS1 := HS.out _ hb3; clear hb2 hb3 hS0))
        go_wp2
        go_roundw
        case rel => exact ⟨i + 1, hlt, by go_num, Go.Lib.hid (fun y hy => by
          rw [List.take_add_one, HRR.out] at hy
          rcases List.mem_append.1 hy with hy | hy
          · exact hah.out y hy
          · simp at hy
            subst hy
            exact HLTP.out), Go.Lib.hid (hb.out.trans (H2.out.mono hb.out.size))⟩
        case measure => simp [intOf]; omega
      | false =>
        have HPL := Go.Lib.hid (HPI.out i hi hah.out (fun e he => by rw [HRR.out] at he; injection he with he; exact he ▸ of_decide_eq_false hcc))
        rw [hcc] at hcl
        obtain ⟨⟨ra, rn⟩, rv⟩ := r
        dsimp only at hcl CM HS hS0
        clear hcc
        generalize cmpP ra rn qa qn = T at CM hcl
        go_wp2
        go_region_held3 (fun w' => w'.cell? ⟨bl, off + i * 3, none⟩ = some (.int .u32 ra) ∧ w'.cell? ⟨bl, off + i * 3 + 1, none⟩ = some (.int .i64 rn) ∧ w'.cell? ⟨w.heap.size, 0, none⟩ = some (.int .u32 qa) ∧ w'.cell? ⟨w.heap.size, 1, none⟩ = some (.int .i64 qn)) (assumption) (first
          | (go_at_call 50; refine (CM.out _).mono ?_; rintro e w2 ⟨rfl, hb2⟩; have hb3 := ((Below.refl wr.heap.size wr).drew).trans (hb2.mono ((Below.refl wr.heap.size wr).drew).size); have H2 := Go.Lib.hid hb3; have hS1 := HS.out _ hb3; clear hb2 hb3 hS0))
        have BN := Go.Lib.hid (hb.out.trans (H2.out.mono hb.out.size))
        have BW := Go.Lib.hid (HB1.out.trans (BN.out.mono HB1.out.size))
        clear hS1
        have HSN := Go.Lib.hid (fun (W : World) (h : Below w2.heap.size w2 W) => (⟨h, HKP.out W (BN.out.trans (h.mono BN.out.size))⟩ : Below w2.heap.size w2 W ∧ W.cell? ⟨w.heap.size, 0, none⟩ = some (.int .u32 qa) ∧ W.cell? ⟨w.heap.size, 1, none⟩ = some (.int .i64 qn)))
        have T0 := Go.Lib.hid True.intro
        go_wp2
        go_region_held3 (fun w' => Below w2.heap.size w2 w' ∧ w'.cell? ⟨w.heap.size, 0, none⟩ = some (.int .u32 qa) ∧ w'.cell? ⟨w.heap.size, 1, none⟩ = some (.int .i64 qn)) (first | assumption | exact HSN.out _ (Below.refl _ _).drew | exact HSN.out _ (by assumption) | exact HSN.out _ (Below.alloc (And.left (by assumption)) (Below.size (And.left (by assumption))) _))
          (first
            | (have tok := T0.out
               refine step_append_row (by rfl) (.tmp 40) (.tmp 43) (by rfl) E w2.heap.size _ 0 [] (by rfl) ?_ _ i (ecells (l.take i)) (by rfl) ?_ (ones_e _) ?_ ?_ ?_ i (Nat.zero_add i) ?_
               · exact own_blk3 (by simp) (by simp only [heap_dr, heap_al, Array.getElem?_push, Array.size_push]; simp)
               · exact HR1.out.keep (BW.out.trans (Below.mono (And.left (by assumption)) BW.out.size))
               · unfold maxLen; omega
               · omega
               · simp; try omega
               intro A5 c5 x1 hown1 hg1 hat1 hb0
               have hb1 : Below w2.heap.size w2 x1 := Below.trans (And.left (by assumption)) hb0
               have hS1 := HSN.out _ hb1
               clear hb0 tok T0)
            | (have tok := hown1
               clear tok
               refine step_append_row (by rfl) (.tmp 44) (.tmp 48) (by rfl) E w2.heap.size (.slice A5 i c5) i ([] ++ ecells (l.take i)) (by rfl) hown1 _ 1 [.int .u32 qa, .int .i64 qn, .int .i64 x] (by rfl) ?_ (ones_three _ _ _) ?_ ?_ hb1.size (i + 1) rfl ?_
               · refine one_blk3 (t := 40) ((hg1.block _ ?_ ?_).trans ?_)
                 · simp only [heap_dr, heap_al, Array.size_push]; omega
                 · simp [Act.eval, Value.ownBlock]; try omega
                 · simp only [heap_dr, heap_al, Array.getElem?_push, Array.size_push]; simp
               · unfold maxLen; omega
               · omega
               intro A6 c6 x2 hown2 hg2 hat2 hb0
               have hb2 : Below w2.heap.size w2 x2 := Below.trans hb1 hb0
               have hS2 := HSN.out _ hb2
               clear hb0 hown1)
            | (have tok := hown1
               clear tok
               refine step_append_row (by rfl) (.tmp 44) (.tmp 48) (by rfl) E w2.heap.size (.slice A5 i c5) i ([] ++ ecells (l.take i)) (by rfl) (hown1.alloc _) _ 1 [.int .u32 qa, .int .i64 qn, .int .i64 x] (by rfl) ?_ (ones_three _ _ _) ?_ ?_ ?_ (i + 1) rfl ?_
               · exact row_three _ _ _ _ _
               · unfold maxLen; omega
               · omega
               · exact Nat.le_trans hb1.size (by simp)
               intro A6 c6 x2 hown2 hg2 hat2 hb0
               have hb2 : Below w2.heap.size w2 x2 := Below.trans (And.left (by assumption)) hb0
               have hS2 := HSN.out _ hb2
               clear hb0 hown1)
            | (have tok := hown2
               clear tok
               refine step_append_row (by rfl) (.tmp 49) (.tmp 52) (by rfl) E w2.heap.size (.slice A6 (i + 1) c6) (i + 1) _ (by rfl) hown2 _ (l.length - i) (ecells (l.drop i)) (by rfl) ?_ (ones_e _) ?_ ?_ hb2.size (l.length + 1) (by omega) ?_
               · exact HR2.out.keep (BW.out.trans (hb2.mono BW.out.size))
               · unfold maxLen; omega
               · omega
               intro A7 c7 x3 hown3 hg3 hat3 hb0
               have hb3 : Below w2.heap.size w2 x3 := Below.trans hb2 hb0
               have hS3 := HSN.out _ hb3
               clear hb0 hown2))
        all_goals go_wp2
        all_goals go_ret
        all_goals exact put_end hown3 hi HPL.out HK.out BW.out hb3
    · have z1 : decide ((i : Int) < (l.length : Int)) = false := decide_eq_false (by omega)
      have HPL := Go.Lib.hid (HPI.out i hi hah.out (fun e he => by rw [List.getElem?_eq_none (by omega)] at he; cases he))
      have hR2 := Row.cut (HV.out).1 (k := i) (by omega)
      rw [ecells_drop] at hR2
      have HR2 := Go.Lib.hid hR2
      clear hR2
      obtain ⟨d0, d1⟩ := HKP.out _ hb.out
      go_wp2
      go_quiet (fail)
      have BN := Go.Lib.hid (hb.out.trans ((Mem.below_drewN wr nq).mono hb.out.size))
      have BW := Go.Lib.hid (HB1.out.trans (BN.out.mono HB1.out.size))
      clear d0 d1
      generalize wr.drewN nq = w2 at BN BW ⊢
      have HSN := Go.Lib.hid (fun (W : World) (h : Below w2.heap.size w2 W) => (⟨h, HKP.out W (BN.out.trans (h.mono BN.out.size))⟩ : Below w2.heap.size w2 W ∧ W.cell? ⟨w.heap.size, 0, none⟩ = some (.int .u32 qa) ∧ W.cell? ⟨w.heap.size, 1, none⟩ = some (.int .i64 qn)))
      have T0 := Go.Lib.hid True.intro
      go_wp2
      go_region_held3 (fun w' => Below w2.heap.size w2 w' ∧ w'.cell? ⟨w.heap.size, 0, none⟩ = some (.int .u32 qa) ∧ w'.cell? ⟨w.heap.size, 1, none⟩ = some (.int .i64 qn)) (first | assumption | exact HSN.out _ (Below.refl _ _).drew | exact HSN.out _ (by assumption) | exact HSN.out _ (Below.alloc (And.left (by assumption)) (Below.size (And.left (by assumption))) _))
        (first
          | (have tok := T0.out
             refine step_append_row (by rfl) (.tmp 40) (.tmp 43) (by rfl) E w2.heap.size _ 0 [] (by rfl) ?_ _ i (ecells (l.take i)) (by rfl) ?_ (ones_e _) ?_ ?_ ?_ i (Nat.zero_add i) ?_
             · exact own_blk3 (by simp) (by simp only [heap_dr, heap_al, Array.getElem?_push, Array.size_push]; simp)
             · exact HR1.out.keep (BW.out.trans (Below.mono (And.left (by assumption)) BW.out.size))
             · unfold maxLen; omega
             · omega
             · simp; try omega
             intro A5 c5 x1 hown1 hg1 hat1 hb0
             have hb1 : Below w2.heap.size w2 x1 := Below.trans (And.left (by assumption)) hb0
             have hS1 := HSN.out _ hb1
             clear hb0 tok T0)
          | (have tok := hown1
             clear tok
             refine step_append_row (by rfl) (.tmp 44) (.tmp 48) (by rfl) E w2.heap.size (.slice A5 i c5) i ([] ++ ecells (l.take i)) (by rfl) hown1 _ 1 [.int .u32 qa, .int .i64 qn, .int .i64 x] (by rfl) ?_ (ones_three _ _ _) ?_ ?_ hb1.size (i + 1) rfl ?_
             · refine one_blk3 (t := 40) ((hg1.block _ ?_ ?_).trans ?_)
               · simp only [heap_dr, heap_al, Array.size_push]; omega
               · simp [Act.eval, Value.ownBlock]; try omega
               · simp only [heap_dr, heap_al, Array.getElem?_push, Array.size_push]; simp
             · unfold maxLen; omega
             · omega
             intro A6 c6 x2 hown2 hg2 hat2 hb0
             have hb2 : Below w2.heap.size w2 x2 := Below.trans hb1 hb0
             have hS2 := HSN.out _ hb2
             clear hb0 hown1)
          | (have tok := hown1
             clear tok
             refine step_append_row (by rfl) (.tmp 44) (.tmp 48) (by rfl) E w2.heap.size (.slice A5 i c5) i ([] ++ ecells (l.take i)) (by rfl) (hown1.alloc _) _ 1 [.int .u32 qa, .int .i64 qn, .int .i64 x] (by rfl) ?_ (ones_three _ _ _) ?_ ?_ ?_ (i + 1) rfl ?_
             · exact row_three _ _ _ _ _
             · unfold maxLen; omega
             · omega
             · exact Nat.le_trans hb1.size (by simp)
             intro A6 c6 x2 hown2 hg2 hat2 hb0
             have hb2 : Below w2.heap.size w2 x2 := Below.trans (And.left (by assumption)) hb0
             have hS2 := HSN.out _ hb2
             clear hb0 hown1)
          | (have tok := hown2
             clear tok
             refine step_append_row (by rfl) (.tmp 49) (.tmp 52) (by rfl) E w2.heap.size (.slice A6 (i + 1) c6) (i + 1) _ (by rfl) hown2 _ (l.length - i) (ecells (l.drop i)) (by rfl) ?_ (ones_e _) ?_ ?_ hb2.size (l.length + 1) (by omega) ?_
             · exact HR2.out.keep (BW.out.trans (hb2.mono BW.out.size))
             · unfold maxLen; omega
             · omega
             intro A7 c7 x3 hown3 hg3 hat3 hb0
             have hb3 : Below w2.heap.size w2 x3 := Below.trans hb2 hb0
             have hS3 := HSN.out _ hb3
             clear hb0 hown2))
      all_goals go_wp2
      all_goals go_ret
      all_goals exact put_end hown3 hi HPL.out HK.out BW.out hb3
theorem rput_any (v : Value) (l : List Ent) (p : Pf) (x : Int) (w : World) (hv : Rws w v l) (ho : Ord l) (hp : p.ok) (hx : (Lit.int .i64 x).wf = true) (hl : l.length ≤ 1000) :
    Calls Try.prog 28 #[v, pV p, .int .i64 x] w (RowsF v (putE l p x) w) := by
  cases h : posE l p with
  | none => exact rput_new v l p x w hv h hp hx hl
  | some i => exact rput_old v l p x i w hv h ho hx hl
end Go.Proofs.Ytpcahgnibdampaa.Tri
