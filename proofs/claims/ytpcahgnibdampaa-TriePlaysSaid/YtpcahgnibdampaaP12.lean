/- The contract of the trie's each: it calls what it was handed at every node, in order, with an array of nodes that wait. The contracts of what the trie's functions hand to over and each: the functions within Put, Cut, Longest, Nodes; and drop. -/
import Derived.Test.YtpcahgnibdampaaP11
import Derived.ScopeJumps
import Derived.Outline
import Derived.Deep.Cut
import Derived.Laws.Tables
import Derived.BigQuiet
import Derived.Deep.RegionHeld3
import Derived.Lib.QuietBelow
import Derived.RegionTactic
namespace Go.Proofs.Ytpcahgnibdampaa.Tri
open Go.RowKit Mem PR Pfx Oct
def LenOK (k : Nat) : MT → Prop
  | .nil => True
  | .node _ q _ _ _ _ _ => (k : Int) ≤ q.n ∧ q.n ≤ 32
def Wait : List MT → Prop
  | [] => True
  | m :: ws => m ≠ .nil ∧ LenOK (ws.length + 1) m ∧ Wait ws
def ArrIs (A : Array Value) : List MT → Prop
  | [] => True
  | m :: ws => A[ws.length]? = some (ptr m) ∧ ArrIs A ws
theorem ArrIs.set {A : Array Value} {i : Nat} {v : Value} : ∀ {ws : List MT}, ArrIs A ws → ws.length ≤ i → ArrIs (A.setIfInBounds i v) ws
  | [], _, _ => trivial
  | m :: ws, h, hi => ⟨by rw [Array.getElem?_setIfInBounds_ne (by simp only [List.length_cons] at hi; omega)]; exact h.1, ArrIs.set h.2 (by simp only [List.length_cons] at hi; omega)⟩
def Deeper (q : Pf) : MT → Prop
  | .nil => True
  | .node _ r _ _ _ _ _ => q.n < r.n ∧ r.n ≤ 32
structure Walks (n0 : Nat) (R : List MT → World → Prop) : Prop where
  keep : ∀ {l : List MT} {W W' : World}, R l W → Below W.heap.size W W' → R l W'
  set : ∀ {l : List MT} {W : World} {i : Nat} {v : Value}, R l W → R l (W.setCell ⟨n0, i, none⟩ v)
  nil : ∀ {l : List MT} {W : World}, R (.nil :: l) W → R l W
  nil2 : ∀ {m : MT} {l : List MT} {W : World}, R (m :: .nil :: l) W → R (m :: l) W
  nd : ∀ {b : Nat} {q : Pf} {x : Int} {h : Bool} {c : Int} {s t : MT} {l : List MT} {W : World}, R (.node b q x h c s t :: l) W → 0 ≤ q.n ∧ q.n ≤ 32 ∧ Deeper q s ∧ Deeper q t
def VisitsE (k : FuncId) (caps : Array Value) (n0 : Nat) (R : List MT → World → Prop) : Prop :=
  ∀ (b : Nat) (q : Pf) (x : Int) (h : Bool) (c : Int) (s t : MT) (l : List MT) (W : World), n0 < W.heap.size → R (.node b q x h c s t :: l) W →
    Calls Try.prog k (#[.pointer (some ⟨b, 0, none⟩)] ++ caps) W fun e W' => e = .returned (.tuple #[]) ∧ W.heap.size ≤ W'.heap.size ∧ W'.heap[n0]? = W.heap[n0]? ∧ Nd W' b q x h c (ptr s) (ptr t) ∧ R (s :: t :: l) W'
def tot (m : MT) (ws : List MT) : Nat := msize m + (ws.map msize).foldr (· + ·) 0
theorem tot_cons (m h : MT) (ws : List MT) : tot m (h :: ws) = msize m + tot h ws := by simp only [tot, List.map_cons, List.foldr_cons]
def InL (n0 M : Nat) (R : List MT → World → Prop) (n : Nat) (v0 v5 : Value) (w : World) : Prop :=
  ∃ (m : MT) (ws : List MT) (A : Array Value), n = msize m ∧ v0 = ptr m ∧ v5 = .int .i64 ws.length ∧ Hid (R (m :: ws) w) ∧ Hid (LenOK ws.length m) ∧ Hid (Wait ws) ∧ Hid (ArrIs A ws) ∧ Hid (A.size = 32) ∧ Hid (w.heap[n0]? = some (.cells A 83)) ∧ Hid (tot m ws + ws.length ≤ M) ∧ Hid (n0 < w.heap.size)
def AtLabel (k : FuncId) (caps : Array Value) (n0 : Nat) (R : List MT → World → Prop) (n : Nat) (a : Act) (w : World) : Prop :=
  ∃ (m : MT) (ws : List MT) (A : Array Value) (u2 u3 v6 v7 v8 v9 v10 v11 v12 v13 v14 v15 v16 v17 v18 v19 v20 v21 v22 v23 v24 v25 v26 v27 v28 v29 v30 v31 v32 v33 v34 v35 : Value), n = tot m ws + ws.length ∧ Hid (R (m :: ws) w) ∧ Hid (LenOK ws.length m) ∧ Hid (Wait ws) ∧ Hid (ArrIs A ws) ∧ Hid (A.size = 32) ∧ Hid (w.heap[n0]? = some (.cells A 83)) ∧ Hid (n0 < w.heap.size) ∧
    a = ⟨#[ptr m, .func (.func k) #[] caps, u2, u3, .pointer (some ⟨n0, 0, none⟩), .int .i64 ws.length, v6, v7, v8, v9, v10, v11, v12, v13, v14, v15, v16, v17, v18, v19, v20, v21, v22, v23, v24, v25, v26, v27, v28, v29, v30, v31, v32, v33, v34, v35], []⟩
noncomputable def labM (k : FuncId) (caps : Array Value) (n0 : Nat) (R : List MT → World → Prop) (a : Act) (w : World) : Nat := least (fun n => AtLabel k caps n0 R n a w)
set_option maxRecDepth 100000 in
set_option maxHeartbeats 4000000 in
theorem each_any (kf : FuncId) (caps : Array Value) (hent : Enters kf) (R : List MT → World → Prop) (m0 : MT) (w : World) (HR : Walks w.heap.size R) (hR : R [m0] w) (hl0 : LenOK 0 m0) (HV : VisitsE kf caps w.heap.size R) :
    Calls Try.prog 36 #[ptr m0, .func (.func kf) #[] caps] w fun e w' => e = .returned (.tuple #[]) ∧ R [] w' := by
  have GR := Go.Lib.hid HR
  have GV := Go.Lib.hid HV
  have HLn := Go.Lib.hid hl0
  have HK0 := Go.Lib.hid (fun (w1 : World) (h : Below w.heap.size w w1) => HR.keep hR h)
  clear HR HV hl0 hR
  unfold Enters at hent
  go_enter Try.func36, Try.ntmps36
  go_wp2
  generalize hn0 : w.heap.size = n0 at *
  refine wp_scope_jumps 0 (fun a' w' => ∃ n, AtLabel kf caps n0 R n a' w') (labM kf caps n0 R) rfl ?_ ?_
  · go_wp2
    go_step3
    have HRl := Go.Lib.hid (HK0.out (w.alloc (.cells #[.pointer none, .pointer none, .pointer none, .pointer none, .pointer none, .pointer none, .pointer none, .pointer none, .pointer none, .pointer none, .pointer none, .pointer none, .pointer none, .pointer none, .pointer none, .pointer none, .pointer none, .pointer none, .pointer none, .pointer none, .pointer none, .pointer none, .pointer none, .pointer none, .pointer none, .pointer none, .pointer none, .pointer none, .pointer none, .pointer none, .pointer none, .pointer none] 83)) (by have h := below_new w (.cells #[.pointer none, .pointer none, .pointer none, .pointer none, .pointer none, .pointer none, .pointer none, .pointer none, .pointer none, .pointer none, .pointer none, .pointer none, .pointer none, .pointer none, .pointer none, .pointer none, .pointer none, .pointer none, .pointer none, .pointer none, .pointer none, .pointer none, .pointer none, .pointer none, .pointer none, .pointer none, .pointer none, .pointer none, .pointer none, .pointer none, .pointer none, .pointer none] 83); rw [hn0] at h; exact h))
    have HBk := Go.Lib.hid (show (w.alloc (.cells #[.pointer none, .pointer none, .pointer none, .pointer none, .pointer none, .pointer none, .pointer none, .pointer none, .pointer none, .pointer none, .pointer none, .pointer none, .pointer none, .pointer none, .pointer none, .pointer none, .pointer none, .pointer none, .pointer none, .pointer none, .pointer none, .pointer none, .pointer none, .pointer none, .pointer none, .pointer none, .pointer none, .pointer none, .pointer none, .pointer none, .pointer none, .pointer none] 83)).heap[n0]? = some (.cells #[.pointer none, .pointer none, .pointer none, .pointer none, .pointer none, .pointer none, .pointer none, .pointer none, .pointer none, .pointer none, .pointer none, .pointer none, .pointer none, .pointer none, .pointer none, .pointer none, .pointer none, .pointer none, .pointer none, .pointer none, .pointer none, .pointer none, .pointer none, .pointer none, .pointer none, .pointer none, .pointer none, .pointer none, .pointer none, .pointer none, .pointer none, .pointer none] 83) by rw [← hn0]; exact heap_alloc_new _ _)
    have HN0 := Go.Lib.hid (show n0 < (w.alloc (.cells #[.pointer none, .pointer none, .pointer none, .pointer none, .pointer none, .pointer none, .pointer none, .pointer none, .pointer none, .pointer none, .pointer none, .pointer none, .pointer none, .pointer none, .pointer none, .pointer none, .pointer none, .pointer none, .pointer none, .pointer none, .pointer none, .pointer none, .pointer none, .pointer none, .pointer none, .pointer none, .pointer none, .pointer none, .pointer none, .pointer none, .pointer none, .pointer none] 83)).heap.size by rw [← hn0]; simp)
    generalize w.alloc (.cells #[.pointer none, .pointer none, .pointer none, .pointer none, .pointer none, .pointer none, .pointer none, .pointer none, .pointer none, .pointer none, .pointer none, .pointer none, .pointer none, .pointer none, .pointer none, .pointer none, .pointer none, .pointer none, .pointer none, .pointer none, .pointer none, .pointer none, .pointer none, .pointer none, .pointer none, .pointer none, .pointer none, .pointer none, .pointer none, .pointer none, .pointer none, .pointer none] 83) = w1 at *
    obtain ⟨M, hM⟩ : ∃ M, tot m0 [] + ([] : List MT).length ≤ M := ⟨_, Nat.le_refl _⟩
    have HTt := Go.Lib.hid hM
    clear hM HK0 hn0
    go_wp2
    go_loopw [0, 5] (fun v0 v5 wx => ∃ n, InL n0 M R n v0 v5 wx) (fun v0 v5 wx => least (fun n => InL n0 M R n v0 v5 wx))
    case atStart => exact ⟨_, m0, [], #[.pointer none, .pointer none, .pointer none, .pointer none, .pointer none, .pointer none, .pointer none, .pointer none, .pointer none, .pointer none, .pointer none, .pointer none, .pointer none, .pointer none, .pointer none, .pointer none, .pointer none, .pointer none, .pointer none, .pointer none, .pointer none, .pointer none, .pointer none, .pointer none, .pointer none, .pointer none, .pointer none, .pointer none, .pointer none, .pointer none, .pointer none, .pointer none], rfl, rfl, rfl, HRl, HLn, trivial, trivial, rfl, HBk, HTt, HN0⟩
    case round =>
      have hmz := least_is hrel
      obtain ⟨m, ws, A, hm, rfl, rfl, HRl, HLn, HWt, HAr, HSz, HBk, HTt, HN0⟩ := hmz
      have HZ := Go.Lib.hid hm
      clear hm hrel
      cases m with
      | nil =>
        unfold ptr
        cases ws with
        | nil =>
          simp only [List.length_nil]
          go_wp2
          simp only [Exit.jump]
          refine bodyPost_end (v := .tuple #[]) (by simp [results, Try.results36, go_sem]) rfl ?_
          exact ⟨rfl, GR.out.nil HRl.out⟩
        | cons m2 ws2 =>
          obtain ⟨hne, hln2, hwt2⟩ := HWt.out
          obtain ⟨hat, har2⟩ := HAr.out
          have HLn2 := Go.Lib.hid hln2
          have HWt2 := Go.Lib.hid hwt2
          have HAr2 := Go.Lib.hid har2
          have hlt : ws2.length < A.size := (Array.getElem?_eq_some_iff.1 hat).1
          have hsz := HSz.out
          have hcell := cell_at HBk.out hat
          have HT2 := Go.Lib.hid (show tot m2 ws2 + ws2.length < M by have := HTt.out; rw [tot_cons] at this; simp only [msize, List.length_cons] at this; omega)
          have HLN := Go.Lib.hid (show LenOK ws2.length m2 by
            cases m2 with
            | nil => trivial
            | node b q x h c s t => exact ⟨by have := HLn2.out.1; omega, HLn2.out.2⟩)
          clear hne hln2 hwt2 hat har2
          obtain ⟨k, hk⟩ : ∃ k, k = ws2.length := ⟨_, rfl⟩
          have HK := Go.Lib.hid hk
          have ev : ((m2 :: ws2).length : Int) = (k : Int) + 1 := by rw [hk]; simp
          rw [ev]
          rw [← hk] at hcell hlt
          have z0 : (0 : Int) ≤ (k : Int) := by omega
          have z1 : (k : Int) < 32 := by omega
          have z2 : decide (0 < (k : Int) + 1) = true := decide_eq_true (by omega)
          clear hk ev hlt hsz
          go_wp2
          go_step3
          have hk2 := HK.out
          rw [hk2]
          refine ⟨rfl, tot m2 ws2 + ws2.length, ?_⟩
          all_goals exact ⟨m2, ws2, A, _, _, _, _, _, _, _, _, _, _, _, _, _, _, _, _, _, _, _, _, _, _, _, _, _, _, _, _, _, _, _, _, rfl, GR.out.nil HRl.out, HLN.out, HWt2.out, HAr2.out, HSz.out, HBk.out, HN0.out, rfl⟩
      | node b q x h c s t =>
        obtain ⟨hq0, hq1, hds, hdt⟩ := GR.out.nd HRl.out
        have HQ0 := Go.Lib.hid hq0
        have HDs := Go.Lib.hid hds
        have HDt := Go.Lib.hid hdt
        have hl := HLn.out.1
        have HL := Go.Lib.hid hl
        clear hq0 hq1 hds hdt hl
        have CV := Go.Lib.hid (GV.out b q x h c s t ws wr HN0.out HRl.out)
        unfold ptr
        cases t with
        | nil =>
          obtain ⟨k, hk⟩ : ∃ k, k = ws.length := ⟨_, rfl⟩
          have HK := Go.Lib.hid hk
          rw [← hk]
          clear hk
          go_wp2_with (refine CV.out.mono ?_; rintro e w3 ⟨rfl, hs3, hb3, hn3, hr3⟩; have HN3 := Go.Lib.hid hn3; have HR3 := Go.Lib.hid hr3; have HB3 := Go.Lib.hid (hb3.trans HBk.out); have HS3 := Go.Lib.hid (Nat.lt_of_lt_of_le HN0.out hs3); obtain ⟨-, -, -, -, -, d5, d6⟩ := hn3.cells; unfold ptr at d6; clear hn3 hr3 hb3 hs3)
          go_roundw
          all_goals
            have hnew : InL n0 M R (msize s) (ptr s) (.int .i64 k) w3 :=
              ⟨s, ws, A, rfl, rfl, (by rw [HK.out]), GR.out.nil2 HR3.out, (by
                cases s with
                | nil => trivial
                | node => exact ⟨by have := HDs.out.1; have := HL.out; omega, HDs.out.2⟩), HWt.out, HAr.out, HSz.out, HB3.out, (show tot s ws + ws.length ≤ M by have := HTt.out; simp only [tot, msize] at this ⊢; omega), HS3.out⟩
          case rel => exact ⟨_, hnew⟩
          case measure =>
            refine Nat.lt_of_le_of_lt (least_le hnew) ?_
            have := HZ.out
            rw [← HK.out] at this
            unfold ptr at *
            simp only [msize] at this
            omega
        | node b2 q2 x2 h2 c2 s2 t2 =>
          have hk32 : ws.length < 32 := by have h1 := HDt.out.1; have h2 := HDt.out.2; have h3 := HL.out; omega
          obtain ⟨v, hv⟩ : ∃ v, A[ws.length]? = some v := ⟨_, Array.getElem?_eq_getElem (by rw [HSz.out]; exact hk32)⟩
          have HV := Go.Lib.hid hv
          obtain ⟨k, hk⟩ : ∃ k, k = ws.length := ⟨_, rfl⟩
          have HK := Go.Lib.hid hk
          rw [← hk]
          rw [← hk] at hk32
          have z0 : (0 : Int) ≤ (k : Int) := by omega
          have z1 : (k : Int) < 32 := by omega
          have HCELL := Go.Lib.hid (fun (W : World) (hW : W.heap[n0]? = some (.cells A 83)) => (⟨cell_at hW (by rw [HK.out]; exact HV.out), frozen_of_row W n0 k A _ hW⟩ : W.cell? ⟨n0, k, none⟩ = some v ∧ W.frozen? ⟨n0, k, none⟩ = false))
          have HKIDS := Go.Lib.hid (fun (W : World) (hW : W.heap[n0]? = some (.cells A 83)) (hn : Nd W b q x h c (ptr s) (ptr (.node b2 q2 x2 h2 c2 s2 t2))) => (cell_at (W := W.setCell ⟨n0, k, none⟩ (.pointer (some ⟨b2, 0, none⟩))) (b := b) (i := 5) ((Go.RowKit.Below.heap_setCell _ _ _ _ (fun e => by
            have e2 : b = n0 := e
            subst e2
            have h1 : W.heap[b]? = _ := hn
            rw [hW] at h1
            have h2 := HSz.out
            injection h1 with h1
            injection h1 with h1
            rw [h1] at h2
            cases h2)).trans hn) rfl : (W.setCell ⟨n0, k, none⟩ (.pointer (some ⟨b2, 0, none⟩))).cell? ⟨b, 5, none⟩ = some (ptr s)))
          clear hk hv hk32
          go_wp2_with (refine CV.out.mono ?_; rintro e w3 ⟨rfl, hs3, hb3, hn3, hr3⟩; have HN3 := Go.Lib.hid hn3; have HR3 := Go.Lib.hid hr3; have HB3 := Go.Lib.hid (hb3.trans HBk.out); have HS3 := Go.Lib.hid (Nat.lt_of_lt_of_le HN0.out hs3); obtain ⟨-, -, -, -, -, -, d6⟩ := hn3.cells; unfold ptr at d6; obtain ⟨y0, y1⟩ := HCELL.out w3 HB3.out; have y2 := HKIDS.out w3 HB3.out HN3.out; clear hn3 hr3 hb3 hs3)
          go_roundw
          all_goals
            have hnew : InL n0 M R (msize s) (ptr s) (.int .i64 ((k : Int) + 1)) (w3.setCell ⟨n0, k, none⟩ (.pointer (some ⟨b2, 0, none⟩))) :=
              ⟨s, .node b2 q2 x2 h2 c2 s2 t2 :: ws, A.setIfInBounds k (.pointer (some ⟨b2, 0, none⟩)), rfl, rfl, (by rw [HK.out]; simp), GR.out.set HR3.out, (by
                cases s with
                | nil => trivial
                | node => exact ⟨by have := HDs.out.1; have := HL.out; simp only [List.length_cons]; omega, HDs.out.2⟩), ⟨(fun e => by cases e), ⟨by have := HDt.out.1; have := HL.out; omega, HDt.out.2⟩, HWt.out⟩, ⟨by rw [← HK.out, Array.getElem?_setIfInBounds_self_of_lt (by have := HSz.out; omega)]; rfl, ArrIs.set HAr.out (by rw [HK.out]; exact Nat.le_refl _)⟩, (show (A.setIfInBounds k _).size = 32 by rw [Array.size_setIfInBounds]; exact HSz.out), heap_set _ HB3.out, (show tot s (_ :: ws) + _ ≤ M by have := HTt.out; rw [tot_cons]; simp only [tot, msize, List.length_cons] at this ⊢; omega), (show n0 < (w3.setCell _ _).heap.size by simpa [World.setCell] using HS3.out)⟩
          case rel => exact ⟨_, hnew⟩
          case measure =>
            refine Nat.lt_of_le_of_lt (least_le hnew) ?_
            have := HZ.out
            rw [← HK.out] at this
            unfold ptr at *
            simp only [msize] at this
            omega
  · rintro a' w' hJ
    have hmz := least_is hJ
    obtain ⟨M, hM⟩ : ∃ M, labM kf caps n0 R a' w' = M := ⟨_, rfl⟩
    replace hmz : AtLabel kf caps n0 R (labM kf caps n0 R a' w') a' w' := hmz
    rw [hM] at hmz ⊢
    obtain ⟨m, ws, A, u2, u3, v6, v7, v8, v9, v10, v11, v12, v13, v14, v15, v16, v17, v18, v19, v20, v21, v22, v23, v24, v25, v26, v27, v28, v29, v30, v31, v32, v33, v34, v35, hM2, HRl, HLn, HWt, HAr, HSz, HBk, HN0, rfl⟩ := hmz
    have HTt := Go.Lib.hid (show tot m ws + ws.length ≤ M by omega)
    clear hM hM2 hJ HK0
    go_wp2
    go_loopw [0, 5] (fun v0 v5 wx => ∃ n, InL n0 M R n v0 v5 wx) (fun v0 v5 wx => least (fun n => InL n0 M R n v0 v5 wx))
    case atStart => exact ⟨_, m, ws, A, rfl, rfl, rfl, HRl, HLn, HWt, HAr, HSz, HBk, HTt, HN0⟩
    case round =>
      have hmz := least_is hrel
      obtain ⟨m, ws, A, hm, rfl, rfl, HRl, HLn, HWt, HAr, HSz, HBk, HTt, HN0⟩ := hmz
      have HZ := Go.Lib.hid hm
      clear hm hrel
      cases m with
      | nil =>
        unfold ptr
        cases ws with
        | nil =>
          simp only [List.length_nil]
          go_wp2
          simp only [Exit.jump]
          refine bodyPost_end (v := .tuple #[]) (by simp [results, Try.results36, go_sem]) rfl ?_
          exact ⟨rfl, GR.out.nil HRl.out⟩
        | cons m2 ws2 =>
          obtain ⟨hne, hln2, hwt2⟩ := HWt.out
          obtain ⟨hat, har2⟩ := HAr.out
          have HLn2 := Go.Lib.hid hln2
          have HWt2 := Go.Lib.hid hwt2
          have HAr2 := Go.Lib.hid har2
          have hlt : ws2.length < A.size := (Array.getElem?_eq_some_iff.1 hat).1
          have hsz := HSz.out
          have hcell := cell_at HBk.out hat
          have HT2 := Go.Lib.hid (show tot m2 ws2 + ws2.length < M by have := HTt.out; rw [tot_cons] at this; simp only [msize, List.length_cons] at this; omega)
          have HLN := Go.Lib.hid (show LenOK ws2.length m2 by
            cases m2 with
            | nil => trivial
            | node b q x h c s t => exact ⟨by have := HLn2.out.1; omega, HLn2.out.2⟩)
          clear hne hln2 hwt2 hat har2
          obtain ⟨k, hk⟩ : ∃ k, k = ws2.length := ⟨_, rfl⟩
          have HK := Go.Lib.hid hk
          have ev : ((m2 :: ws2).length : Int) = (k : Int) + 1 := by rw [hk]; simp
          rw [ev]
          rw [← hk] at hcell hlt
          have z0 : (0 : Int) ≤ (k : Int) := by omega
          have z1 : (k : Int) < 32 := by omega
          have z2 : decide (0 < (k : Int) + 1) = true := decide_eq_true (by omega)
          clear hk ev hlt hsz
          go_wp2
          go_step3
          have hk2 := HK.out
          rw [hk2]
          refine ⟨rfl, ⟨tot m2 ws2 + ws2.length, ?_⟩, Nat.lt_of_le_of_lt (least_le (n := tot m2 ws2 + ws2.length) ?_) HT2.out⟩
          all_goals exact ⟨m2, ws2, A, _, _, _, _, _, _, _, _, _, _, _, _, _, _, _, _, _, _, _, _, _, _, _, _, _, _, _, _, _, _, _, _, rfl, GR.out.nil HRl.out, HLN.out, HWt2.out, HAr2.out, HSz.out, HBk.out, HN0.out, rfl⟩
      | node b q x h c s t =>
        obtain ⟨hq0, hq1, hds, hdt⟩ := GR.out.nd HRl.out
        have HQ0 := Go.Lib.hid hq0
        have HDs := Go.Lib.hid hds
        have HDt := Go.Lib.hid hdt
        have hl := HLn.out.1
        have HL := Go.Lib.hid hl
        clear hq0 hq1 hds hdt hl
        have CV := Go.Lib.hid (GV.out b q x h c s t ws wr HN0.out HRl.out)
        unfold ptr
        cases t with
        | nil =>
          obtain ⟨k, hk⟩ : ∃ k, k = ws.length := ⟨_, rfl⟩
          have HK := Go.Lib.hid hk
          rw [← hk]
          clear hk
          go_wp2_with (refine CV.out.mono ?_; rintro e w3 ⟨rfl, hs3, hb3, hn3, hr3⟩; have HN3 := Go.Lib.hid hn3; have HR3 := Go.Lib.hid hr3; have HB3 := Go.Lib.hid (hb3.trans HBk.out); have HS3 := Go.Lib.hid (Nat.lt_of_lt_of_le HN0.out hs3); obtain ⟨-, -, -, -, -, d5, d6⟩ := hn3.cells; unfold ptr at d6; clear hn3 hr3 hb3 hs3)
          go_roundw
          all_goals
            have hnew : InL n0 M R (msize s) (ptr s) (.int .i64 k) w3 :=
              ⟨s, ws, A, rfl, rfl, (by rw [HK.out]), GR.out.nil2 HR3.out, (by
                cases s with
                | nil => trivial
                | node => exact ⟨by have := HDs.out.1; have := HL.out; omega, HDs.out.2⟩), HWt.out, HAr.out, HSz.out, HB3.out, (show tot s ws + ws.length ≤ M by have := HTt.out; simp only [tot, msize] at this ⊢; omega), HS3.out⟩
          case rel => exact ⟨_, hnew⟩
          case measure =>
            refine Nat.lt_of_le_of_lt (least_le hnew) ?_
            have := HZ.out
            rw [← HK.out] at this
            unfold ptr at *
            simp only [msize] at this
            omega
        | node b2 q2 x2 h2 c2 s2 t2 =>
          have hk32 : ws.length < 32 := by have h1 := HDt.out.1; have h2 := HDt.out.2; have h3 := HL.out; omega
          obtain ⟨v, hv⟩ : ∃ v, A[ws.length]? = some v := ⟨_, Array.getElem?_eq_getElem (by rw [HSz.out]; exact hk32)⟩
          have HV := Go.Lib.hid hv
          obtain ⟨k, hk⟩ : ∃ k, k = ws.length := ⟨_, rfl⟩
          have HK := Go.Lib.hid hk
          rw [← hk]
          rw [← hk] at hk32
          have z0 : (0 : Int) ≤ (k : Int) := by omega
          have z1 : (k : Int) < 32 := by omega
          have HCELL := Go.Lib.hid (fun (W : World) (hW : W.heap[n0]? = some (.cells A 83)) => (⟨cell_at hW (by rw [HK.out]; exact HV.out), frozen_of_row W n0 k A _ hW⟩ : W.cell? ⟨n0, k, none⟩ = some v ∧ W.frozen? ⟨n0, k, none⟩ = false))
          have HKIDS := Go.Lib.hid (fun (W : World) (hW : W.heap[n0]? = some (.cells A 83)) (hn : Nd W b q x h c (ptr s) (ptr (.node b2 q2 x2 h2 c2 s2 t2))) => (cell_at (W := W.setCell ⟨n0, k, none⟩ (.pointer (some ⟨b2, 0, none⟩))) (b := b) (i := 5) ((Go.RowKit.Below.heap_setCell _ _ _ _ (fun e => by
            have e2 : b = n0 := e
            subst e2
            have h1 : W.heap[b]? = _ := hn
            rw [hW] at h1
            have h2 := HSz.out
            injection h1 with h1
            injection h1 with h1
            rw [h1] at h2
            cases h2)).trans hn) rfl : (W.setCell ⟨n0, k, none⟩ (.pointer (some ⟨b2, 0, none⟩))).cell? ⟨b, 5, none⟩ = some (ptr s)))
          clear hk hv hk32
          go_wp2_with (refine CV.out.mono ?_; rintro e w3 ⟨rfl, hs3, hb3, hn3, hr3⟩; have HN3 := Go.Lib.hid hn3; have HR3 := Go.Lib.hid hr3; have HB3 := Go.Lib.hid (hb3.trans HBk.out); have HS3 := Go.Lib.hid (Nat.lt_of_lt_of_le HN0.out hs3); obtain ⟨-, -, -, -, -, -, d6⟩ := hn3.cells; unfold ptr at d6; obtain ⟨y0, y1⟩ := HCELL.out w3 HB3.out; have y2 := HKIDS.out w3 HB3.out HN3.out; clear hn3 hr3 hb3 hs3)
          go_roundw
          all_goals
            have hnew : InL n0 M R (msize s) (ptr s) (.int .i64 ((k : Int) + 1)) (w3.setCell ⟨n0, k, none⟩ (.pointer (some ⟨b2, 0, none⟩))) :=
              ⟨s, .node b2 q2 x2 h2 c2 s2 t2 :: ws, A.setIfInBounds k (.pointer (some ⟨b2, 0, none⟩)), rfl, rfl, (by rw [HK.out]; simp), GR.out.set HR3.out, (by
                cases s with
                | nil => trivial
                | node => exact ⟨by have := HDs.out.1; have := HL.out; simp only [List.length_cons]; omega, HDs.out.2⟩), ⟨(fun e => by cases e), ⟨by have := HDt.out.1; have := HL.out; omega, HDt.out.2⟩, HWt.out⟩, ⟨by rw [← HK.out, Array.getElem?_setIfInBounds_self_of_lt (by have := HSz.out; omega)]; rfl, ArrIs.set HAr.out (by rw [HK.out]; exact Nat.le_refl _)⟩, (show (A.setIfInBounds k _).size = 32 by rw [Array.size_setIfInBounds]; exact HSz.out), heap_set _ HB3.out, (show tot s (_ :: ws) + _ ≤ M by have := HTt.out; rw [tot_cons]; simp only [tot, msize, List.length_cons] at this ⊢; omega), (show n0 < (w3.setCell _ _).heap.size by simpa [World.setCell] using HS3.out)⟩
          case rel => exact ⟨_, hnew⟩
          case measure =>
            refine Nat.lt_of_le_of_lt (least_le hnew) ?_
            have := HZ.out
            rw [← HK.out] at this
            unfold ptr at *
            simp only [msize] at this
            omega
end Go.Proofs.Ytpcahgnibdampaa.Tri
namespace Go.Proofs.Ytpcahgnibdampaa.Tri
open Go.RowKit Mem PR Pfx Oct
theorem enters_nodes : Enters 42 := fun _ _ => rfl
theorem enters_long : Enters 34 := fun _ _ => rfl
theorem enters_put : Enters 45 := fun _ _ => rfl
theorem enters_cut : Enters 46 := fun _ _ => rfl
set_option maxRecDepth 100000 in
set_option maxHeartbeats 4000000 in
theorem nodes1_any {W : World} {b bl : Nat} {n : Int} (hl : W.heap[bl]? = some (.cells #[.int .i64 n] 3)) (h0 : 0 ≤ n) (h1 : n < 1000000) :
    Calls Try.prog 42 #[.pointer (some ⟨b, 0, none⟩), .pointer (some ⟨bl, 0, none⟩)] W fun e W' => e = .returned (.tuple #[]) ∧ W' = W.setCell ⟨bl, 0, none⟩ (.int .i64 (n + 1)) := by
  have c0 : W.cell? ⟨bl, 0, none⟩ = some (.int .i64 n) := cell_at hl rfl
  have f0 := frozen_of_row W bl 0 _ _ hl
  have y1 : IntKind.i64.wrap (n + 1) = n + 1 := by rw [IntKind.wrap_i64]; omega
  clear hl
  go_enter Try.func42, Try.ntmps42
  go_wp2
  refine bodyPost_end (v := .tuple #[]) (by simp [results, Try.results42, go_sem]) rfl ?_
  exact ⟨rfl, rfl⟩
set_option maxRecDepth 100000 in
set_option maxHeartbeats 4000000 in
theorem put1_any {W : World} {b : Nat} {q : Pf} {x : Int} {h : Bool} {c : Int} {k0 k1 : Value} (hn : Nd W b q x h c k0 k1) (h0 : -1000000 < c) (h1 : c < 1000000) :
    Calls Try.prog 45 #[.pointer (some ⟨b, 0, none⟩)] W fun e W' => e = .returned (.tuple #[]) ∧ W' = W.setCell ⟨b, 4, none⟩ (.int .i64 (c + 1)) := by
  obtain ⟨-, -, -, -, c0, -⟩ := hn.cells
  have f0 := frozen_of_row W b 4 _ _ hn
  have y1 : IntKind.i64.wrap (c + 1) = c + 1 := by rw [IntKind.wrap_i64]; omega
  clear hn
  go_enter Try.func45, Try.ntmps45
  go_wp2
  refine bodyPost_end (v := .tuple #[]) (by simp [results, Try.results45, go_sem]) rfl ?_
  exact ⟨rfl, rfl⟩
set_option maxRecDepth 100000 in
set_option maxHeartbeats 4000000 in
theorem cut1_any {W : World} {b : Nat} {q : Pf} {x : Int} {h : Bool} {c : Int} {k0 k1 : Value} (hn : Nd W b q x h c k0 k1) (h0 : -1000000 < c) (h1 : c < 1000000) :
    Calls Try.prog 46 #[.pointer (some ⟨b, 0, none⟩)] W fun e W' => e = .returned (.tuple #[]) ∧ W' = W.setCell ⟨b, 4, none⟩ (.int .i64 (c - 1)) := by
  obtain ⟨-, -, -, -, c0, -⟩ := hn.cells
  have f0 := frozen_of_row W b 4 _ _ hn
  have y1 : IntKind.i64.wrap (c - 1) = c - 1 := by rw [IntKind.wrap_i64]; omega
  clear hn
  go_enter Try.func46, Try.ntmps46
  go_wp2
  refine bodyPost_end (v := .tuple #[]) (by simp [results, Try.results46, go_sem]) rfl ?_
  exact ⟨rfl, rfl⟩
set_option maxRecDepth 100000 in
set_option maxHeartbeats 4000000 in
theorem drop_any {W : World} {b : Nat} {q : Pf} {x : Int} {h : Bool} {c : Int} {k0 k1 : Value} (hn : Nd W b q x h c k0 k1) :
    Calls Try.prog 47 #[.pointer (some ⟨b, 0, none⟩)] W fun e W' => e = .returned (.tuple #[]) ∧ W' = (W.setCell ⟨b, 2, none⟩ (.int .i64 0)).setCell ⟨b, 3, none⟩ (.bool false) := by
  obtain ⟨-, -, c0, c1, -⟩ := hn.cells
  have f0 := frozen_of_row W b 2 _ _ hn
  have f1 := frozen_of_row W b 3 _ _ hn
  clear hn
  go_enter Try.func47, Try.ntmps47
  go_wp2
  refine bodyPost_end (v := .tuple #[]) (by simp [results, Try.results47, go_sem]) rfl ?_
  exact ⟨rfl, rfl⟩
def Found (W : World) (x0 x1 x2 : Nat) (v0 : Pf) (v1 : Int) (v2 : Bool) : Prop :=
  W.heap[x0]? = some (.cells #[.int .u32 v0.a, .int .i64 v0.n] 25) ∧ W.heap[x1]? = some (.cells #[.int .i64 v1] 3) ∧ W.heap[x2]? = some (.cells #[.bool v2] 4)
theorem set_ne {W : World} {b i k : Nat} {u : Value} (h : k ≠ b) : (W.setCell ⟨b, i, none⟩ u).heap[k]? = W.heap[k]? := Go.RowKit.Below.heap_setCell _ _ _ _ h
theorem found_set {W : World} {x0 x1 x2 : Nat} {v0 u0 : Pf} {v1 u1 : Int} {v2 u2 : Bool} (h : Found W x0 x1 x2 v0 v1 v2) (n3 : x0 ≠ x1) (n4 : x0 ≠ x2) (n5 : x1 ≠ x2) :
    Found (((((W.setCell ⟨x0, 0, none⟩ (.int .u32 u0.a)).setCell ⟨x0, 1, none⟩ (.int .i64 u0.n)).setCell ⟨x1, 0, none⟩ (.int .i64 u1)).setCell ⟨x2, 0, none⟩ (.bool u2)).drew) x0 x1 x2 u0 u1 u2 := by
  obtain ⟨g0, g1, g2⟩ := h
  refine ⟨?_, ?_, ?_⟩
  · exact (set_ne n4).trans ((set_ne n3).trans (heap_set (i := 1) (.int .i64 u0.n) (heap_set (i := 0) (.int .u32 u0.a) g0)))
  · exact (set_ne n5).trans (heap_set (i := 0) (.int .i64 u1) ((set_ne n3.symm).trans ((set_ne n3.symm).trans g1)))
  · exact heap_set (i := 0) (.bool u2) ((set_ne n5.symm).trans ((set_ne n4.symm).trans ((set_ne n4.symm).trans g2)))
set_option maxRecDepth 100000 in
set_option maxHeartbeats 4000000 in
theorem long1_any {W : World} {b x0 x1 x2 : Nat} {q : Pf} {x : Int} {h : Bool} {c : Int} {k0 k1 : Value} {v0 : Pf} {v1 : Int} {v2 : Bool} (hn : Nd W b q x h c k0 k1) (hf : Found W x0 x1 x2 v0 v1 v2) (n3 : x0 ≠ x1) (n4 : x0 ≠ x2) (n5 : x1 ≠ x2) :
    Calls Try.prog 34 #[.pointer (some ⟨b, 0, none⟩), .pointer (some ⟨x0, 0, none⟩), .pointer (some ⟨x1, 0, none⟩), .pointer (some ⟨x2, 0, none⟩)] W fun e W' => e = .returned (.tuple #[]) ∧
      Found W' x0 x1 x2 (if h then q else v0) (if h then x else v1) (if h then true else v2) ∧ W'.heap.size = W.heap.size ∧ W'.os = W.os ∧ W'.tape = W.tape ∧ W'.output = W.output ∧ ∀ k, k ≠ x0 → k ≠ x1 → k ≠ x2 → W'.heap[k]? = W.heap[k]? := by
  obtain ⟨c0, c1, c2, c3, -⟩ := hn.cells
  cases h with
  | false =>
    have HF := Go.Lib.hid hf
    clear hf hn
    go_enter Try.func34, Try.ntmps34
    go_wp2
    refine bodyPost_end (v := .tuple #[]) (by simp [results, Try.results34, go_sem]) rfl ?_
    exact ⟨rfl, HF.out, rfl, rfl, rfl, rfl, fun _ _ _ _ => rfl⟩
  | true =>
    have HF := Go.Lib.hid hf
    obtain ⟨g0, g1, g2⟩ := hf
    have e0 := cell_at (i := 0) g0 rfl
    have e1 := cell_at (i := 1) g0 rfl
    have e2 := cell_at (i := 0) g1 rfl
    have e3 := cell_at (i := 0) g2 rfl
    have f0 := frozen_of_row W x0 0 _ _ g0
    have f1 := frozen_of_row W x0 1 _ _ g0
    have f2 := frozen_of_row W x1 0 _ _ g1
    have f3 := frozen_of_row W x2 0 _ _ g2
    clear hn g0 g1 g2
    go_enter Try.func34, Try.ntmps34
    go_wp2
    go_region
    all_goals (try go_wp2)
    all_goals refine bodyPost_end (v := .tuple #[]) (by simp [results, Try.results34, go_sem]) rfl ?_
    exact ⟨rfl, found_set HF.out n3 n4 n5, by simp [World.setCell], rfl, rfl, rfl, fun k k0 k1 k2 => (set_ne k2).trans ((set_ne k1).trans ((set_ne k0).trans (set_ne k0)))⟩
end Go.Proofs.Ytpcahgnibdampaa.Tri
