/- The reference's Sort. -/
import Derived.Test.YtgjdpmpbldofpaaNlriSortMath
import Derived.Deep.RegionHeld3
import Derived.Deep.DrawnRows
namespace Go.Proofs.Ytgjdpmpbldofpaa.PR
open Go.RowKit Mem Pfx

attribute [local go_sem ↓] Go.wp_at_zero Go.wp_at_succ
theorem own_form2 {w : World} {base : Nat} {e : TypeId} {A : Option Addr} {n c : Nat} {l : List Pf} (h : w.ownsRow base e 2 (.slice A n c) n (pcells l)) (hn : n = l.length) (hl : Oks l) : Pfxs w (.slice A n c) l := by
  subst hn
  exact Pfxs.of_own h hl
theorem one_blk2 {W : World} {B : Nat} {t : TypeId} {x y : Value} (h : W.heap[B]? = some (.cells #[x, y] t (0, 0))) : Row W 2 (.slice (some ⟨B, 0, none⟩) 1 1) 1 [x, y] :=
  Row.of_own (base := 0) (e := t) ⟨rfl, .inr ⟨B, 1, #[x, y], rfl, Nat.zero_le _, h, Nat.le_refl _, by decide, rfl, rfl⟩⟩
theorem own_new2 {w : World} (x y : Value) (t : TypeId) : Row (w.alloc (.cells #[x, y] t)) 2 (.slice (some ⟨w.heap.size, 0, none⟩) 1 1) 1 [x, y] := one_blk2 (heap_alloc_new _ _)
theorem cut2_at {w : World} {b off n c k : Nat} {cs : List Value} (h : Row w 2 (.slice (some ⟨b, off, none⟩) n c) n cs) (hk : k ≤ n) :
    Row w 2 (.slice (if c = k then some ⟨b, off, none⟩ else some ⟨b, off + k * 2, none⟩) (n - k) (c - k)) (n - k) (cs.drop (k * 2)) := by
  have := h.cut hk
  have e : (if c = k then some (⟨b, off, none⟩ : Addr) else (some (⟨b, off, none⟩ : Addr)).map (·.add (k * 2))) = if c = k then some ⟨b, off, none⟩ else some ⟨b, off + k * 2, none⟩ := by
    split
    · rfl
    · simp only [Option.map]
      unfold Addr.add
      split
      · rename_i h0; rw [h0]; rfl
      · rfl
  rwa [e] at this
theorem ins_own {W : World} {base base' n : Nat} {v : Value} {a b : List Pf} {p : Pf} (h : W.ownsRow base' 35 2 v n ([] ++ pcells a ++ pcells [p] ++ pcells b)) (hb : base ≤ base') : W.ownsRow base 35 2 v n (pcells (a ++ p :: b)) := by
  have e : pcells (a ++ p :: b) = [] ++ pcells a ++ pcells [p] ++ pcells b := by
    rw [pcells_append, pcells_cons]
    simp [pcells]
  rw [e]
  exact own_base h hb
set_option maxRecDepth 100000 in
set_option maxHeartbeats 16000000 in
theorem refSort_any (v : Value) (l : List Pf) (w : World) (hv : Pfxs w v l) (hl : l.length ≤ 1000) : Calls Try.prog 12 #[v] w (GivesP (sortP l) w) := by
  obtain ⟨i0, E0⟩ := elemP
  have HV := Go.Lib.hid hv
  obtain ⟨A, c, rfl, hlc, hc⟩ := hv.form
  clear hv
  have h0 : (w.alloc (.cells #[] 35)).ownsRow w.heap.size 35 2 (.slice (some ⟨w.heap.size, 0, none⟩) 0 0) 0 (pcells []) := own_blk2 (Nat.le_refl _) (heap_alloc_new _ _)
  have hb0 : Below w.heap.size w (w.alloc (.cells #[] 35)) := (Below.refl _ w).alloc (Nat.le_refl _) _
  go_enter Try.func12, Try.ntmps12
  go_wp2
  go_loopw [3, 4] (fun v3 v4 wx => ∃ (j m : Nat) (A : Option Addr) (c : Nat) (out : List Pf), j ≤ l.length ∧ v4 = .int .i64 j ∧ v3 = .slice A m c ∧ Hid (m = out.length) ∧ m ≤ j ∧ Hid (Oks out) ∧ Hid (out = sortP (l.take j)) ∧ Hid (wx.ownsRow w.heap.size 35 2 (.slice A m c) m (pcells out)) ∧ Hid (Below w.heap.size w wx)) (fun _ v4 _ => l.length - (intOf v4).toNat)
  case atStart => exact ⟨0, 0, _, 0, [], Nat.zero_le _, rfl, rfl, Go.Lib.hid rfl, Nat.le_refl _, Go.Lib.hid oks_nil, Go.Lib.hid (by simp [sortP]), Go.Lib.hid h0, Go.Lib.hid hb0⟩
  case round =>
    obtain ⟨j, m, Ar, cr, out, hj, rfl, rfl, hm, hmj, hok, hso, hown, hb⟩ := hrel
    by_cases hlt : j < l.length
    · obtain ⟨p, hp⟩ : ∃ p, l[j]? = some p := ⟨_, List.getElem?_eq_getElem hlt⟩
      obtain ⟨bl, off, rfl, hbl, k0, k1⟩ := (HV.out).at_ hp
      have hpo := (HV.out).2 p (List.mem_of_getElem? hp)
      have HST := Go.Lib.hid (sortP_take hp)
      have HPO := Go.Lib.hid hpo
      have HKC := Go.Lib.hid (fun (W : World) (h : Below w.heap.size w W) => (⟨(h.cell (p := ⟨bl, off + j * 2, none⟩) hbl).trans k0, (h.cell (p := ⟨bl, off + j * 2 + 1, none⟩) hbl).trans k1⟩ : W.cell? ⟨bl, off + j * 2, none⟩ = some (.int .u32 p.a) ∧ W.cell? ⟨bl, off + j * 2 + 1, none⟩ = some (.int .i64 p.n)))
      have CG := Go.Lib.hid (fun (W : World) => refGood_any p.a p.n hpo.1 W)
      have z0 : (0 : Int) ≤ (j : Int) := by omega
      have z1 : (j : Int) < (l.length : Int) := by omega
      obtain ⟨c0, c1⟩ := HKC.out _ hb.out
      clear k0 k1 hp hbl hpo
      go_wp2_with (go_at_call 17; refine (CG.out _).mono ?_; rintro e w1 ⟨rfl, hb1⟩; have B1 := Go.Lib.hid (hb.out.trans (hb1.mono hb.out.size)); have O1 := Go.Lib.hid (own_keep hown.out hb1); clear hb1 c0 c1)
      go_loopw [5] (fun v5 wx => ∃ i : Nat, i ≤ m ∧ v5 = .int .i64 i ∧ Hid (∀ q ∈ out.take i, ahead q p = true) ∧ Hid (Below w1.heap.size w1 wx)) (fun v5 _ => m - (intOf v5).toNat)
      case atStart => exact ⟨0, Nat.zero_le _, rfl, Go.Lib.hid (by simp), Go.Lib.hid (Below.refl _ _)⟩
      case round =>
        obtain ⟨i, hi, rfl, hah, hbi⟩ := hrel
        have BI := Go.Lib.hid (B1.out.trans (hbi.out.mono B1.out.size))
        have OI := Go.Lib.hid (own_keep O1.out hbi.out)
        have t0 : (0 : Int) ≤ (i : Int) := by omega
        by_cases him : i < m
        · obtain ⟨q, hq⟩ : ∃ q, out[i]? = some q := ⟨_, List.getElem?_eq_getElem (by rw [← hm.out]; exact him)⟩
          obtain ⟨bo, oo, hAr, hbo, q0, q1⟩ := (own_form2 OI.out hm.out hok.out).at_ hq
          have t1 : (i : Int) < (m : Int) := by omega
          have CM := Go.Lib.hid (fun (W : World) => refCmp_any q.a q.n p.a p.n W)
          subst hAr
          have HS := Go.Lib.hid (fun (W : World) (h : Below wr.heap.size wr W) => (⟨(h.cell (p := ⟨bo, oo + i * 2, none⟩) hbo).trans q0, (h.cell (p := ⟨bo, oo + i * 2 + 1, none⟩) hbo).trans q1, (HKC.out W (BI.out.trans (h.mono BI.out.size))).1, (HKC.out W (BI.out.trans (h.mono BI.out.size))).2⟩ :
            W.cell? ⟨bo, oo + i * 2, none⟩ = some (.int .u32 q.a) ∧ W.cell? ⟨bo, oo + i * 2 + 1, none⟩ = some (.int .i64 q.n) ∧ W.cell? ⟨bl, off + j * 2, none⟩ = some (.int .u32 p.a) ∧ W.cell? ⟨bl, off + j * 2 + 1, none⟩ = some (.int .i64 p.n)))
          have hS0 := HS.out _ (Below.refl wr.heap.size wr).drew
          have HQ := Go.Lib.hid hq
          clear q0 q1 hbo hq
          cases hc : ahead q p with
          | true =>
            have d1 : decide (cmpP q.a q.n p.a p.n < 0) = true := hc
            have HAH := Go.Lib.hid hc
            clear hc
            generalize cmpP q.a q.n p.a p.n = r at CM d1
            go_wp2
            go_region_held3 (fun w' => w'.cell? ⟨bo, oo + i * 2, none⟩ = some (.int .u32 q.a) ∧ w'.cell? ⟨bo, oo + i * 2 + 1, none⟩ = some (.int .i64 q.n) ∧ w'.cell? ⟨bl, off + j * 2, none⟩ = some (.int .u32 p.a) ∧ w'.cell? ⟨bl, off + j * 2 + 1, none⟩ = some (.int .i64 p.n)) (assumption) (first
              | (go_at_call 18; refine (CM.out _).mono ?_; rintro e w2 ⟨rfl, hb2⟩; have hb3 := ((Below.refl wr.heap.size wr).drew).trans (hb2.mono ((Below.refl wr.heap.size wr).drew).size); have H2 := Go.Lib.hid hb3; have hS1 := HS.out _ hb3; clear hb2 hb3 hS0))
            go_wp2
            go_roundw
            case rel => exact ⟨i + 1, him, by go_num, Go.Lib.hid (fun y hy => by
              rw [List.take_add_one, HQ.out] at hy
              rcases List.mem_append.1 hy with hy | hy
              · exact hah.out y hy
              · simp at hy
                subst hy
                exact HAH.out), Go.Lib.hid (hbi.out.trans (H2.out.mono hbi.out.size))⟩
            case measure => simp [intOf]; omega
          | false =>
            have d1 : decide (cmpP q.a q.n p.a p.n < 0) = false := hc
            have HPL := Go.Lib.hid (place_is out i hah.out (.inr ⟨q, HQ.out, hc⟩))
            clear hc
            generalize cmpP q.a q.n p.a p.n = r at CM d1
            go_wp2
            go_region_held3 (fun w' => w'.cell? ⟨bo, oo + i * 2, none⟩ = some (.int .u32 q.a) ∧ w'.cell? ⟨bo, oo + i * 2 + 1, none⟩ = some (.int .i64 q.n) ∧ w'.cell? ⟨bl, off + j * 2, none⟩ = some (.int .u32 p.a) ∧ w'.cell? ⟨bl, off + j * 2 + 1, none⟩ = some (.int .i64 p.n)) (assumption) (first
              | (go_at_call 18; refine (CM.out _).mono ?_; rintro e w2 ⟨rfl, hb2⟩; have hb3 := ((Below.refl wr.heap.size wr).drew).trans (hb2.mono ((Below.refl wr.heap.size wr).drew).size); have H2 := Go.Lib.hid hb3; have hS1 := HS.out _ hb3; clear hb2 hb3 hS0))
            have BN := Go.Lib.hid (BI.out.trans (H2.out.mono BI.out.size))
            have ON := Go.Lib.hid (own_keep OI.out H2.out)
            obtain ⟨e0, e1, e2, e3⟩ := hS1
            have hne : ((i : Int) == (m : Int)) = false := by simp; omega
            go_wp2
            cases hg : goodB p.a p.n with
            | false =>
              have HNO := Go.Lib.hid (insP_bad (out := out) (p := p) hg)
              try rw [hg]
              go_quiet (fail)
              have BN2 := Go.Lib.hid (BN.out.trans ((Mem.below_drewN w2 nq).mono BN.out.size))
              have ON2 := Go.Lib.hid (own_keep ON.out (Mem.below_drewN w2 nq))
              clear BN ON
              generalize w2.drewN nq = WN at BN2 ON2 ⊢
              have BN := BN2
              have ON := ON2
              go_wp2
              go_roundw
              case rel => exact ⟨j + 1, m, _, _, out, hlt, by go_num, rfl, hm, by omega, hok, Go.Lib.hid (by rw [HST.out, ← hso.out, HNO.out]), ON, BN⟩
              case measure => simp [intOf]; omega
            | true =>
              cases hq2 : sameB q p with
              | true =>
                have HNO := Go.Lib.hid (insP_old HPL.out ((stands_some HQ.out).trans hq2))
                obtain rfl := sameB_eq.1 hq2
                try rw [hg]
                go_quiet (fail)
                have BN2 := Go.Lib.hid (BN.out.trans ((Mem.below_drewN w2 nq).mono BN.out.size))
                have ON2 := Go.Lib.hid (own_keep ON.out (Mem.below_drewN w2 nq))
                clear BN ON
                generalize w2.drewN nq = WN at BN2 ON2 ⊢
                have BN := BN2
                have ON := ON2
                go_wp2
                go_roundw
                case rel => exact ⟨j + 1, m, _, _, out, hlt, by go_num, rfl, hm, by omega, hok, Go.Lib.hid (by rw [HST.out, ← hso.out, HNO.out]), ON, BN⟩
                case measure => simp [intOf]; omega
              | false =>
                have HNW := Go.Lib.hid (insP_new hg HPL.out ((stands_some HQ.out).trans hq2))
                try rw [hg]
                by_cases hA : q.a = p.a
                · have hB : ¬ q.n = p.n := fun hB => by simp [sameB, hA, hB] at hq2
                  rw [hA] at e0 ⊢
                  go_quiet (fail)
                  have BN2 := Go.Lib.hid (BN.out.trans ((Mem.below_drewN w2 nq).mono BN.out.size))
                  have ON2 := Go.Lib.hid (own_keep ON.out (Mem.below_drewN w2 nq))
                  clear BN ON e0 e1 e2 e3
                  generalize w2.drewN nq = WN at BN2 ON2 ⊢
                  have BN := BN2
                  have ON := ON2
                  have hR0 := (Row.of_own ON.out).prefix_ (k := i) (by omega)
                  rw [pcells_take] at hR0
                  have hR1 := cut2_at (Row.of_own ON.out) (k := i) (by omega)
                  rw [pcells_drop] at hR1
                  have HR0 := Go.Lib.hid hR0
                  have HR1 := Go.Lib.hid hR1
                  clear hR0 hR1
                  have HSN := Go.Lib.hid (fun (W : World) (h : Below WN.heap.size WN W) => (⟨h, HKC.out W (BN.out.trans (h.mono BN.out.size))⟩ : Below WN.heap.size WN W ∧ W.cell? ⟨bl, off + j * 2, none⟩ = some (.int .u32 p.a) ∧ W.cell? ⟨bl, off + j * 2 + 1, none⟩ = some (.int .i64 p.n)))
                  have T0 := Go.Lib.hid True.intro
                  have hmc : m ≤ cr := by obtain ⟨_, _, _, e, h, _⟩ := Row.of_own ON.out; injection e with e1 e2 e3; omega
                  have u1 : (i : Int) ≤ (cr : Int) := by omega
                  have u2 : (i : Int) ≤ (m : Int) := by omega
                  go_wp2
                  go_region_held3 (fun w' => Below WN.heap.size WN w' ∧ w'.cell? ⟨bl, off + j * 2, none⟩ = some (.int .u32 p.a) ∧ w'.cell? ⟨bl, off + j * 2 + 1, none⟩ = some (.int .i64 p.n)) (first | assumption | exact HSN.out _ (Below.refl _ _).drew | exact HSN.out _ (by assumption) | exact HSN.out _ (Below.alloc (And.left (by assumption)) (Below.size (And.left (by assumption))) _))
                    (first
                      | (have tok := T0.out
                         refine step_append_row (by rfl) (.tmp 55) (.tmp 58) (by rfl) E0 WN.heap.size _ 0 [] (by rfl) ?_ _ i (pcells (out.take i)) (by rfl) ?_ (ones_p _) ?_ ?_ ?_ i (Nat.zero_add i) ?_
                         · exact own_blk2 (by simp) (by simp only [heap_dr, heap_al, Array.getElem?_push, Array.size_push]; simp)
                         · exact HR0.out.keep (And.left (by assumption))
                         · unfold maxLen; omega
                         · omega
                         · simp; try omega
                         intro A5 c5 x1 hown1 hg1 hat1 hb0
                         have hb1 : Below WN.heap.size WN x1 := Below.trans (And.left (by assumption)) hb0
                         have hS1 := HSN.out _ hb1
                         clear hb0 tok T0)
                      | (have tok := hown1
                         clear tok
                         refine step_append_row (by rfl) (.tmp 59) (.tmp 64) (by rfl) E0 WN.heap.size (.slice A5 i c5) i ([] ++ pcells (out.take i)) (by rfl) hown1 _ 1 (pcells [p]) (by rfl) ?_ (ones_p _) ?_ ?_ hb1.size (i + 1) rfl ?_
                         · refine one_blk2 (t := 35) ((hg1.block _ ?_ ?_).trans ?_)
                           · simp only [heap_dr, heap_al, Array.size_push]; omega
                           · simp [Act.eval, Value.ownBlock]; try omega
                           · simp only [heap_dr, heap_al, Array.getElem?_push, Array.size_push]; simp
                         · unfold maxLen; omega
                         · omega
                         intro A6 c6 x2 hown2 hg2 hat2 hb0
                         have hb2 : Below WN.heap.size WN x2 := Below.trans hb1 hb0
                         have hS2 := HSN.out _ hb2
                         clear hb0 hown1)
                      | (have tok := hown1
                         clear tok
                         refine step_append_row (by rfl) (.tmp 59) (.tmp 64) (by rfl) E0 WN.heap.size (.slice A5 i c5) i ([] ++ pcells (out.take i)) (by rfl) (hown1.alloc _) _ 1 (pcells [p]) (by rfl) ?_ (ones_p _) ?_ ?_ ?_ (i + 1) rfl ?_
                         · exact own_new2 _ _ _
                         · unfold maxLen; omega
                         · omega
                         · exact Nat.le_trans hb1.size (by simp)
                         intro A6 c6 x2 hown2 hg2 hat2 hb0
                         have hb2 : Below WN.heap.size WN x2 := Below.trans (And.left (by assumption)) hb0
                         have hS2 := HSN.out _ hb2
                         clear hb0 hown1)
                      | (have tok := hown2
                         clear tok
                         refine step_append_row (by rfl) (.tmp 65) (.tmp 68) (by rfl) E0 WN.heap.size (.slice A6 (i + 1) c6) (i + 1) ([] ++ pcells (out.take i) ++ pcells [p]) (by rfl) hown2 _ (m - i) (pcells (out.drop i)) (by rfl) ?_ (ones_p _) ?_ ?_ hb2.size (m + 1) (by omega) ?_
                         · exact HR1.out.keep hb2
                         · unfold maxLen; omega
                         · omega
                         intro A7 c7 x3 hown3 hg3 hat3 hb0
                         have hb3 : Below WN.heap.size WN x3 := Below.trans hb2 hb0
                         have hS3 := HSN.out _ hb3
                         clear hb0 hown2))
                  all_goals go_wp2
                  all_goals go_roundw
                  case rel => exact ⟨j + 1, m + 1, _, _, insP out p, hlt, by go_num, rfl, Go.Lib.hid (by rw [HNW.out, List.length_append, List.length_cons, List.length_take, List.length_drop, ← hm.out]; omega), by omega, Go.Lib.hid (insP_ok hok.out HPO.out), Go.Lib.hid (by rw [HST.out, ← hso.out]), Go.Lib.hid (by rw [HNW.out]; exact ins_own hown3 BN.out.size), Go.Lib.hid (BN.out.trans (hb3.mono BN.out.size))⟩
                  case rel => exact ⟨j + 1, m + 1, _, _, insP out p, hlt, by go_num, rfl, Go.Lib.hid (by rw [HNW.out, List.length_append, List.length_cons, List.length_take, List.length_drop, ← hm.out]; omega), by omega, Go.Lib.hid (insP_ok hok.out HPO.out), Go.Lib.hid (by rw [HST.out, ← hso.out]), Go.Lib.hid (by rw [HNW.out]; exact ins_own hown3 BN.out.size), Go.Lib.hid (BN.out.trans (hb3.mono BN.out.size))⟩
                  case rel => exact ⟨j + 1, m + 1, _, _, insP out p, hlt, by go_num, rfl, Go.Lib.hid (by rw [HNW.out, List.length_append, List.length_cons, List.length_take, List.length_drop, ← hm.out]; omega), by omega, Go.Lib.hid (insP_ok hok.out HPO.out), Go.Lib.hid (by rw [HST.out, ← hso.out]), Go.Lib.hid (by rw [HNW.out]; exact ins_own hown3 BN.out.size), Go.Lib.hid (BN.out.trans (hb3.mono BN.out.size))⟩
                  all_goals (simp [intOf]; omega)
                · have hA2 : ¬ ((q.a : Int) = (p.a : Int)) := by omega
                  go_quiet (fail)
                  have BN2 := Go.Lib.hid (BN.out.trans ((Mem.below_drewN w2 nq).mono BN.out.size))
                  have ON2 := Go.Lib.hid (own_keep ON.out (Mem.below_drewN w2 nq))
                  clear BN ON e0 e1 e2 e3
                  generalize w2.drewN nq = WN at BN2 ON2 ⊢
                  have BN := BN2
                  have ON := ON2
                  have hR0 := (Row.of_own ON.out).prefix_ (k := i) (by omega)
                  rw [pcells_take] at hR0
                  have hR1 := cut2_at (Row.of_own ON.out) (k := i) (by omega)
                  rw [pcells_drop] at hR1
                  have HR0 := Go.Lib.hid hR0
                  have HR1 := Go.Lib.hid hR1
                  clear hR0 hR1
                  have HSN := Go.Lib.hid (fun (W : World) (h : Below WN.heap.size WN W) => (⟨h, HKC.out W (BN.out.trans (h.mono BN.out.size))⟩ : Below WN.heap.size WN W ∧ W.cell? ⟨bl, off + j * 2, none⟩ = some (.int .u32 p.a) ∧ W.cell? ⟨bl, off + j * 2 + 1, none⟩ = some (.int .i64 p.n)))
                  have T0 := Go.Lib.hid True.intro
                  have hmc : m ≤ cr := by obtain ⟨_, _, _, e, h, _⟩ := Row.of_own ON.out; injection e with e1 e2 e3; omega
                  have u1 : (i : Int) ≤ (cr : Int) := by omega
                  have u2 : (i : Int) ≤ (m : Int) := by omega
                  go_wp2
                  go_region_held3 (fun w' => Below WN.heap.size WN w' ∧ w'.cell? ⟨bl, off + j * 2, none⟩ = some (.int .u32 p.a) ∧ w'.cell? ⟨bl, off + j * 2 + 1, none⟩ = some (.int .i64 p.n)) (first | assumption | exact HSN.out _ (Below.refl _ _).drew | exact HSN.out _ (by assumption) | exact HSN.out _ (Below.alloc (And.left (by assumption)) (Below.size (And.left (by assumption))) _))
                    (first
                      | (have tok := T0.out
                         refine step_append_row (by rfl) (.tmp 55) (.tmp 58) (by rfl) E0 WN.heap.size _ 0 [] (by rfl) ?_ _ i (pcells (out.take i)) (by rfl) ?_ (ones_p _) ?_ ?_ ?_ i (Nat.zero_add i) ?_
                         · exact own_blk2 (by simp) (by simp only [heap_dr, heap_al, Array.getElem?_push, Array.size_push]; simp)
                         · exact HR0.out.keep (And.left (by assumption))
                         · unfold maxLen; omega
                         · omega
                         · simp; try omega
                         intro A5 c5 x1 hown1 hg1 hat1 hb0
                         have hb1 : Below WN.heap.size WN x1 := Below.trans (And.left (by assumption)) hb0
                         have hS1 := HSN.out _ hb1
                         clear hb0 tok T0)
                      | (have tok := hown1
                         clear tok
                         refine step_append_row (by rfl) (.tmp 59) (.tmp 64) (by rfl) E0 WN.heap.size (.slice A5 i c5) i ([] ++ pcells (out.take i)) (by rfl) hown1 _ 1 (pcells [p]) (by rfl) ?_ (ones_p _) ?_ ?_ hb1.size (i + 1) rfl ?_
                         · refine one_blk2 (t := 35) ((hg1.block _ ?_ ?_).trans ?_)
                           · simp only [heap_dr, heap_al, Array.size_push]; omega
                           · simp [Act.eval, Value.ownBlock]; try omega
                           · simp only [heap_dr, heap_al, Array.getElem?_push, Array.size_push]; simp
                         · unfold maxLen; omega
                         · omega
                         intro A6 c6 x2 hown2 hg2 hat2 hb0
                         have hb2 : Below WN.heap.size WN x2 := Below.trans hb1 hb0
                         have hS2 := HSN.out _ hb2
                         clear hb0 hown1)
                      | (have tok := hown1
                         clear tok
                         refine step_append_row (by rfl) (.tmp 59) (.tmp 64) (by rfl) E0 WN.heap.size (.slice A5 i c5) i ([] ++ pcells (out.take i)) (by rfl) (hown1.alloc _) _ 1 (pcells [p]) (by rfl) ?_ (ones_p _) ?_ ?_ ?_ (i + 1) rfl ?_
                         · exact own_new2 _ _ _
                         · unfold maxLen; omega
                         · omega
                         · exact Nat.le_trans hb1.size (by simp)
                         intro A6 c6 x2 hown2 hg2 hat2 hb0
                         have hb2 : Below WN.heap.size WN x2 := Below.trans (And.left (by assumption)) hb0
                         have hS2 := HSN.out _ hb2
                         clear hb0 hown1)
                      | (have tok := hown2
                         clear tok
                         refine step_append_row (by rfl) (.tmp 65) (.tmp 68) (by rfl) E0 WN.heap.size (.slice A6 (i + 1) c6) (i + 1) ([] ++ pcells (out.take i) ++ pcells [p]) (by rfl) hown2 _ (m - i) (pcells (out.drop i)) (by rfl) ?_ (ones_p _) ?_ ?_ hb2.size (m + 1) (by omega) ?_
                         · exact HR1.out.keep hb2
                         · unfold maxLen; omega
                         · omega
                         intro A7 c7 x3 hown3 hg3 hat3 hb0
                         have hb3 : Below WN.heap.size WN x3 := Below.trans hb2 hb0
                         have hS3 := HSN.out _ hb3
                         clear hb0 hown2))
                  all_goals go_wp2
                  all_goals go_roundw
                  case rel => exact ⟨j + 1, m + 1, _, _, insP out p, hlt, by go_num, rfl, Go.Lib.hid (by rw [HNW.out, List.length_append, List.length_cons, List.length_take, List.length_drop, ← hm.out]; omega), by omega, Go.Lib.hid (insP_ok hok.out HPO.out), Go.Lib.hid (by rw [HST.out, ← hso.out]), Go.Lib.hid (by rw [HNW.out]; exact ins_own hown3 BN.out.size), Go.Lib.hid (BN.out.trans (hb3.mono BN.out.size))⟩
                  case rel => exact ⟨j + 1, m + 1, _, _, insP out p, hlt, by go_num, rfl, Go.Lib.hid (by rw [HNW.out, List.length_append, List.length_cons, List.length_take, List.length_drop, ← hm.out]; omega), by omega, Go.Lib.hid (insP_ok hok.out HPO.out), Go.Lib.hid (by rw [HST.out, ← hso.out]), Go.Lib.hid (by rw [HNW.out]; exact ins_own hown3 BN.out.size), Go.Lib.hid (BN.out.trans (hb3.mono BN.out.size))⟩
                  case rel => exact ⟨j + 1, m + 1, _, _, insP out p, hlt, by go_num, rfl, Go.Lib.hid (by rw [HNW.out, List.length_append, List.length_cons, List.length_take, List.length_drop, ← hm.out]; omega), by omega, Go.Lib.hid (insP_ok hok.out HPO.out), Go.Lib.hid (by rw [HST.out, ← hso.out]), Go.Lib.hid (by rw [HNW.out]; exact ins_own hown3 BN.out.size), Go.Lib.hid (BN.out.trans (hb3.mono BN.out.size))⟩
                  all_goals (simp [intOf]; omega)
        · have him2 : i = m := by omega
          have HPL := Go.Lib.hid (place_is out i hah.out (.inl (by rw [← hm.out]; exact him2)))
          have t1 : decide ((i : Int) < (m : Int)) = false := decide_eq_false (by omega)
          have heq : ((i : Int) == (m : Int)) = true := by simp; omega
          have HIM := Go.Lib.hid him2
          clear him2
          go_wp2
          go_quiet (fail)
          have BN0 := Go.Lib.hid (BI.out.trans ((Mem.below_drewN wr nq).mono BI.out.size))
          have ON0 := Go.Lib.hid (own_keep OI.out (Mem.below_drewN wr nq))
          generalize wr.drewN nq = W2 at BN0 ON0 ⊢
          clear nq
          go_wp2
          cases hg : goodB p.a p.n with
          | false =>
            have HNO := Go.Lib.hid (insP_bad (out := out) (p := p) hg)
            try rw [hg]
            go_quiet (fail)
            have BN := Go.Lib.hid (BN0.out.trans ((Mem.below_drewN W2 nq).mono BN0.out.size))
            have ON := Go.Lib.hid (own_keep ON0.out (Mem.below_drewN W2 nq))
            generalize W2.drewN nq = WN at BN ON ⊢
            go_wp2
            go_roundw
            case rel => exact ⟨j + 1, m, _, _, out, hlt, by go_num, rfl, hm, by omega, hok, Go.Lib.hid (by rw [HST.out, ← hso.out, HNO.out]), ON, BN⟩
            case measure => simp [intOf]; omega
          | true =>
            have HNW := Go.Lib.hid (insP_new hg HPL.out (stands_none (by rw [← hm.out]; omega)))
            try rw [hg]
            go_quiet (fail)
            have BN := Go.Lib.hid (BN0.out.trans ((Mem.below_drewN W2 nq).mono BN0.out.size))
            have ON := Go.Lib.hid (own_keep ON0.out (Mem.below_drewN W2 nq))
            generalize W2.drewN nq = WN at BN ON ⊢
            have hR0 := (Row.of_own ON.out).prefix_ (k := i) (by omega)
            rw [pcells_take] at hR0
            have hR1 := (Row.of_own ON.out).cut (k := i) (by omega)
            rw [pcells_drop] at hR1
            have HR0 := Go.Lib.hid hR0
            have HR1 := Go.Lib.hid hR1
            clear hR0 hR1
            have HSN := Go.Lib.hid (fun (W : World) (h : Below WN.heap.size WN W) => (⟨h, HKC.out W (BN.out.trans (h.mono BN.out.size))⟩ : Below WN.heap.size WN W ∧ W.cell? ⟨bl, off + j * 2, none⟩ = some (.int .u32 p.a) ∧ W.cell? ⟨bl, off + j * 2 + 1, none⟩ = some (.int .i64 p.n)))
            have T0 := Go.Lib.hid True.intro
            have hmc : m ≤ cr := by obtain ⟨_, _, _, e, h, _⟩ := Row.of_own ON.out; injection e with e1 e2 e3; omega
            have u1 : (i : Int) ≤ (cr : Int) := by omega
            have u2 : (i : Int) ≤ (m : Int) := by omega
            go_wp2
            go_region_held3 (fun w' => Below WN.heap.size WN w' ∧ w'.cell? ⟨bl, off + j * 2, none⟩ = some (.int .u32 p.a) ∧ w'.cell? ⟨bl, off + j * 2 + 1, none⟩ = some (.int .i64 p.n)) (first | assumption | exact HSN.out _ (Below.refl _ _).drew | exact HSN.out _ (by assumption) | exact HSN.out _ (Below.alloc (And.left (by assumption)) (Below.size (And.left (by assumption))) _))
              (first
                | (have tok := T0.out
                   refine step_append_row (by rfl) (.tmp 55) (.tmp 58) (by rfl) E0 WN.heap.size _ 0 [] (by rfl) ?_ _ i (pcells (out.take i)) (by rfl) ?_ (ones_p _) ?_ ?_ ?_ i (Nat.zero_add i) ?_
                   · exact own_blk2 (by simp) (by simp only [heap_dr, heap_al, Array.getElem?_push, Array.size_push]; simp)
                   · exact HR0.out.keep (And.left (by assumption))
                   · unfold maxLen; omega
                   · omega
                   · simp; try omega
                   intro A5 c5 x1 hown1 hg1 hat1 hb0
                   have hb1 : Below WN.heap.size WN x1 := Below.trans (And.left (by assumption)) hb0
                   have hS1 := HSN.out _ hb1
                   clear hb0 tok T0)
                | (have tok := hown1
                   clear tok
                   refine step_append_row (by rfl) (.tmp 59) (.tmp 64) (by rfl) E0 WN.heap.size (.slice A5 i c5) i ([] ++ pcells (out.take i)) (by rfl) hown1 _ 1 (pcells [p]) (by rfl) ?_ (ones_p _) ?_ ?_ hb1.size (i + 1) rfl ?_
                   · refine one_blk2 (t := 35) ((hg1.block _ ?_ ?_).trans ?_)
                     · simp only [heap_dr, heap_al, Array.size_push]; omega
                     · simp [Act.eval, Value.ownBlock]; try omega
                     · simp only [heap_dr, heap_al, Array.getElem?_push, Array.size_push]; simp
                   · unfold maxLen; omega
                   · omega
                   intro A6 c6 x2 hown2 hg2 hat2 hb0
                   have hb2 : Below WN.heap.size WN x2 := Below.trans hb1 hb0
                   have hS2 := HSN.out _ hb2
                   clear hb0 hown1)
                | (have tok := hown1
                   clear tok
                   refine step_append_row (by rfl) (.tmp 59) (.tmp 64) (by rfl) E0 WN.heap.size (.slice A5 i c5) i ([] ++ pcells (out.take i)) (by rfl) (hown1.alloc _) _ 1 (pcells [p]) (by rfl) ?_ (ones_p _) ?_ ?_ ?_ (i + 1) rfl ?_
                   · exact own_new2 _ _ _
                   · unfold maxLen; omega
                   · omega
                   · exact Nat.le_trans hb1.size (by simp)
                   intro A6 c6 x2 hown2 hg2 hat2 hb0
                   have hb2 : Below WN.heap.size WN x2 := Below.trans (And.left (by assumption)) hb0
                   have hS2 := HSN.out _ hb2
                   clear hb0 hown1)
                | (have tok := hown2
                   clear tok
                   refine step_append_row (by rfl) (.tmp 65) (.tmp 68) (by rfl) E0 WN.heap.size (.slice A6 (i + 1) c6) (i + 1) ([] ++ pcells (out.take i) ++ pcells [p]) (by rfl) hown2 _ (m - i) (pcells (out.drop i)) (by rfl) ?_ (ones_p _) ?_ ?_ hb2.size (m + 1) (by omega) ?_
                   · exact HR1.out.keep hb2
                   · unfold maxLen; omega
                   · omega
                   intro A7 c7 x3 hown3 hg3 hat3 hb0
                   have hb3 : Below WN.heap.size WN x3 := Below.trans hb2 hb0
                   have hS3 := HSN.out _ hb3
                   clear hb0 hown2))
            all_goals go_wp2
            all_goals go_roundw
            case rel => exact ⟨j + 1, m + 1, _, _, insP out p, hlt, by go_num, rfl, Go.Lib.hid (by rw [HNW.out, List.length_append, List.length_cons, List.length_take, List.length_drop, ← hm.out]; omega), by omega, Go.Lib.hid (insP_ok hok.out HPO.out), Go.Lib.hid (by rw [HST.out, ← hso.out]), Go.Lib.hid (by rw [HNW.out]; exact ins_own hown3 BN.out.size), Go.Lib.hid (BN.out.trans (hb3.mono BN.out.size))⟩
            case rel => exact ⟨j + 1, m + 1, _, _, insP out p, hlt, by go_num, rfl, Go.Lib.hid (by rw [HNW.out, List.length_append, List.length_cons, List.length_take, List.length_drop, ← hm.out]; omega), by omega, Go.Lib.hid (insP_ok hok.out HPO.out), Go.Lib.hid (by rw [HST.out, ← hso.out]), Go.Lib.hid (by rw [HNW.out]; exact ins_own hown3 BN.out.size), Go.Lib.hid (BN.out.trans (hb3.mono BN.out.size))⟩
            case rel => exact ⟨j + 1, m + 1, _, _, insP out p, hlt, by go_num, rfl, Go.Lib.hid (by rw [HNW.out, List.length_append, List.length_cons, List.length_take, List.length_drop, ← hm.out]; omega), by omega, Go.Lib.hid (insP_ok hok.out HPO.out), Go.Lib.hid (by rw [HST.out, ← hso.out]), Go.Lib.hid (by rw [HNW.out]; exact ins_own hown3 BN.out.size), Go.Lib.hid (BN.out.trans (hb3.mono BN.out.size))⟩
            all_goals (simp [intOf]; omega)
    · have z1 : decide ((j : Int) < (l.length : Int)) = false := decide_eq_false (by omega)
      have HJ := Go.Lib.hid (show j = l.length by omega)
      go_wp2
      go_ret
      have h1 := hm.out
      have h2 := hown.out
      have h3 := hso.out
      rw [HJ.out, List.take_length] at h3
      rw [h3] at h1 h2
      subst h1
      exact ⟨_, _, rfl, h2, hb.out⟩
end Go.Proofs.Ytgjdpmpbldofpaa.PR
