/- The contracts of the trie's Get, Len and Count. The contract of the trie's sound and Check. -/
import Derived.Test.YtpcahgnibdampaaP22
import Derived.Outline
import Derived.Deep.DeepCutAuto
import Derived.Deep.CutRange
import Derived.Deep.Cut
import Derived.Laws.Tables
import Derived.BigQuiet
import Derived.Deep.RegionHeld3
import Derived.Lib.QuietBelow
namespace Go.Proofs.Ytpcahgnibdampaa.Tri
open Go.RowKit Mem PR Pfx Oct
structure Topped (W : World) (tv : Value) (m : MT) : Prop where
  top : ∀ W', Below W.heap.size W W' → Calls Try.prog 31 #[tv] W' (Tells (ptr m) W')
  mt : Mt W m
theorem Topped.of_tree {W : World} {tb : Nat} {m : MT} (h : TreeM W tb m) : Topped W (.pointer (some ⟨tb, 0, none⟩)) m := ⟨fun _ hb => top_any (h.below hb), h.2.1⟩
theorem Topped.none (W : World) : Topped W (.pointer none) .nil := ⟨fun W' _ => top_nil W', trivial⟩
theorem Topped.below {W W' : World} {tv : Value} {m : MT} (h : Topped W tv m) (hb : Below W.heap.size W W') : Topped W' tv m :=
  ⟨fun W2 h2 => h.top W2 (Pfx.Below.tr hb h2), h.mt.keep (fun k hk => hb.block k (h.mt.low k hk))⟩
theorem said_none (p : Pf) (b : Nat) (q : Pf) (x : Int) (h : Bool) (c : Int) (s t : MT) (hn : q ≠ p) : told p (.node b q x h c s t) = none := by rw [told_node, if_neg hn]
set_option maxRecDepth 100000 in
set_option maxHeartbeats 4000000 in
theorem get_m {W : World} {tv : Value} {m : MT} (p : Pf) (hp : p.ok) (hT : Topped W tv m) (hw : WF (tr m)) :
    Calls Try.prog 11 #[tv, pV p] W (Tells (.tuple #[.int .i64 ((told p (subM m p)).getD 0), .bool (told p (subM m p)).isSome]) W) := by
  have hb := below_new W (.cells #[.int .u32 (p.a : Int), .int .i64 p.n] 25)
  obtain ⟨c0, c1⟩ := cells_two W (.int .u32 (p.a : Int)) (.int .i64 p.n) 25
  have HB := Go.Lib.hid hb
  have HM := Go.Lib.hid (sub_mt (p := p) hT.mt)
  have HCT := Go.Lib.hid (fun (W' : World) (h : Below (W.alloc (.cells #[.int .u32 (p.a : Int), .int .i64 p.n] 25)).heap.size (W.alloc (.cells #[.int .u32 (p.a : Int), .int .i64 p.n] 25)) W') => hT.top W' (Pfx.Below.tr hb h))
  have HCU := Go.Lib.hid (fun (W' : World) (h : Below (W.alloc (.cells #[.int .u32 (p.a : Int), .int .i64 p.n] 25)).heap.size (W.alloc (.cells #[.int .u32 (p.a : Int), .int .i64 p.n] 25)) W') => under_any p hp m W' (hT.below (Pfx.Below.tr hb h)).mt (good_of_wf m hw))
  clear hb hT hw
  generalize subM m p = S at *
  obtain ⟨T, hTd⟩ : ∃ T, told p S = T := ⟨_, rfl⟩
  rw [hTd]
  have HTD := Go.Lib.hid hTd
  clear hTd
  unfold pV at *
  go_enter Try.func11, Try.ntmps11
  go_wp2_with fail
  obtain ⟨W1, hW1⟩ : ∃ W1, W.alloc (.cells #[.int .u32 (p.a : Int), .int .i64 p.n] 25) = W1 := ⟨_, rfl⟩
  rw [hW1] at c0 c1 HB HCT HCU ⊢
  clear hW1
  have k0 := cell_regrown c0
  have k1 := cell_regrown c1
  have CT := inReg HCT.out
  have CU := inReg HCU.out
  refine wp_region_quiet_below (by kernel_rfl) (by kernel_rfl) ?_
  repeat (first | go_big_quiet_step (first | exact CT _ _ | exact CU _ _) | quiet_step (first | exact CT _ _ | exact CU _ _))
  refine wpQuiet_nil ?_
  intro _ hw'
  obtain ⟨⟨dq, osq⟩, hw''⟩ := hw'
  subst hw''
  have HQ := Go.Lib.hid (Pfx.Below.tr HB.out (below_regrown W1 dq osq))
  have HM2 := Go.Lib.hid (HM.out.keep (fun k hk => HQ.out.block k (HM.out.low k hk)))
  replace c0 := ((below_regrown W1 dq osq).cell (p := ⟨W.heap.size, 0, none⟩) (block_lt_of_cell c0)).trans c0
  replace c1 := ((below_regrown W1 dq osq).cell (p := ⟨W.heap.size, 1, none⟩) (block_lt_of_cell c1)).trans c1
  generalize Go.Sort.grow (redrawn W1 dq) osq = w2 at *
  clear k0 k1 CT CU HCT HCU
  cases S with
  | nil =>
    rw [show ptr .nil = .pointer none from rfl]
    go_wp2_with fail
    refine wp_region_quiet_below (by kernel_rfl) (by kernel_rfl) ?_
    repeat (first | go_big_quiet_step (fail) | quiet_step (fail))
    refine wpQuiet_nil ?_
    intro _ hw'
    obtain ⟨⟨dq, osq⟩, hw''⟩ := hw'
    subst hw''
    go_wp2
    go_ret2
    exact ⟨by rw [← HTD.out]; rfl, Pfx.Below.tr HQ.out (below_regrown w2 dq osq)⟩
  | node b q x h c s t =>
    obtain ⟨hnd, -, -⟩ := HM2.out
    obtain ⟨d0, d1, d2, d3, -, -, -⟩ := hnd.cells
    have k0 := cell_regrown c0
    have k1 := cell_regrown c1
    have k2 := cell_regrown d0
    have k3 := cell_regrown d1
    have k4 := cell_regrown d3
    rw [show ptr (.node b q x h c s t) = .pointer (some ⟨b, 0, none⟩) from rfl]
    clear hnd
    by_cases he : q = p
    · subst he
      cases h with
      | false =>
        go_wp2_with fail
        refine wp_region_quiet_below (by kernel_rfl) (by kernel_rfl) ?_
        repeat (first | go_big_quiet_step (fail) | quiet_step (fail))
        refine wpQuiet_nil ?_
        intro _ hw'
        obtain ⟨⟨dq, osq⟩, hw''⟩ := hw'
        subst hw''
        go_wp2
        go_ret2
        exact ⟨by rw [← HTD.out, told_node, if_pos rfl]; rfl, Pfx.Below.tr HQ.out (below_regrown w2 dq osq)⟩
      | true =>
        go_wp2_with fail
        refine wp_region_quiet_below (by kernel_rfl) (by kernel_rfl) ?_
        repeat (first | go_big_quiet_step (fail) | quiet_step (fail))
        refine wpQuiet_nil ?_
        intro _ hw'
        obtain ⟨⟨dq, osq⟩, hw''⟩ := hw'
        subst hw''
        have HQ3 := Go.Lib.hid (below_regrown w2 dq osq)
        have d2' := (HQ3.out.cell (p := ⟨b, 2, none⟩) (block_lt_of_cell d2)).trans d2
        generalize Go.Sort.grow (redrawn w2 dq) osq = w3 at *
        clear k0 k1 k2 k3 k4 c0 c1 d0 d1 d2 d3
        go_wp2
        go_ret2
        exact ⟨by rw [← HTD.out, told_node, if_pos rfl]; rfl, Pfx.Below.tr HQ.out HQ3.out⟩
    · have HT := Go.Lib.hid (said_none p b q x h c s t he)
      have hap := pf_apart he
      clear he
      obtain ⟨qa, qn⟩ := q
      obtain ⟨pa, pn⟩ := p
      dsimp only at *
      rcases hap with y1 | ⟨rfl, y1⟩
      all_goals
        go_wp2_with fail
        refine wp_region_quiet_below (by kernel_rfl) (by kernel_rfl) ?_
        repeat (first | go_big_quiet_step (fail) | quiet_step (fail))
        refine wpQuiet_nil ?_
        intro _ hw'
        obtain ⟨⟨dq, osq⟩, hw''⟩ := hw'
        subst hw''
        go_wp2
        go_ret2
        exact ⟨by rw [← HTD.out, HT.out]; rfl, Pfx.Below.tr HQ.out (below_regrown w2 dq osq)⟩
set_option maxRecDepth 100000 in
set_option maxHeartbeats 4000000 in
theorem len_m {W : World} {tv : Value} {m : MT} (hT : Topped W tv m) : Calls Try.prog 19 #[tv] W (Tells (.int .i64 (cntV m)) W) := by
  have CT := Go.Lib.hid (hT.top W (Below.refl _ _))
  have CS := Go.Lib.hid (fun (w : World) (h : Below W.heap.size W w) => size_any (hT.below h).mt)
  clear hT
  go_enter Try.func19, Try.ntmps19
  go_wp2_with (first
    | (go_at_call 31; refine CT.out.mono ?_; rintro e w1 ⟨rfl, hb1⟩; have B1 := Go.Lib.hid hb1; clear hb1)
    | (go_at_call 38; refine (CS.out _ B1.out).mono ?_; rintro e w2 ⟨rfl, hb2⟩; have B2 := Go.Lib.hid (B1.out.trans (hb2.mono B1.out.size)); clear hb2))
  go_ret
  exact ⟨rfl, B2.out⟩
set_option maxRecDepth 100000 in
set_option maxHeartbeats 4000000 in
theorem count_m {W : World} {tv : Value} {m : MT} (p : Pf) (hp : p.ok) (hT : Topped W tv m) (hw : WF (tr m)) :
    Calls Try.prog 18 #[tv, pV p] W (Tells (.int .i64 (cntV (subM m p))) W) := by
  have hb := below_new W (.cells #[.int .u32 (p.a : Int), .int .i64 p.n] 25)
  obtain ⟨c0, c1⟩ := cells_two W (.int .u32 (p.a : Int)) (.int .i64 p.n) 25
  have HB := Go.Lib.hid hb
  have HCT := Go.Lib.hid (fun (W' : World) (h : Below W.heap.size W W') => hT.top W' h)
  have HCU := Go.Lib.hid (fun (W' : World) (h : Below W.heap.size W W') => under_any p hp m W' (hT.below h).mt (good_of_wf m hw))
  have HCS := Go.Lib.hid (fun (W' : World) (h : Below W.heap.size W W') => size_any (sub_mt (p := p) (hT.below h).mt))
  clear hb hT hw
  generalize subM m p = S at *
  unfold pV at *
  go_enter Try.func18, Try.ntmps18
  go_wp2_with fail
  obtain ⟨W1, hW1⟩ : ∃ W1, W.alloc (.cells #[.int .u32 (p.a : Int), .int .i64 p.n] 25) = W1 := ⟨_, rfl⟩
  rw [hW1] at c0 c1 HB ⊢
  clear hW1
  have k0 := cell_regrown c0
  have k1 := cell_regrown c1
  have CT := inReg (W := W1) (fun W' h => HCT.out W' (Pfx.Below.tr HB.out h))
  have CU := inReg (W := W1) (fun W' h => HCU.out W' (Pfx.Below.tr HB.out h))
  have CS := inReg (W := W1) (fun W' h => HCS.out W' (Pfx.Below.tr HB.out h))
  refine wp_region_quiet_below (by kernel_rfl) (by kernel_rfl) ?_
  repeat (first | go_big_quiet_step (first | exact CT _ _ | exact CU _ _ | exact CS _ _) | quiet_step (first | exact CT _ _ | exact CU _ _ | exact CS _ _))
  refine wpQuiet_nil ?_
  intro _ hw'
  obtain ⟨⟨dq, osq⟩, hw''⟩ := hw'
  subst hw''
  go_wp2
  go_ret
  exact ⟨rfl, Pfx.Below.tr HB.out (below_regrown W1 dq osq)⟩
end Go.Proofs.Ytpcahgnibdampaa.Tri
namespace Go.Proofs.Ytpcahgnibdampaa.Tri
open Go.RowKit Mem PR Pfx Oct
def oneV : MT → Int
  | .nil => 0
  | .node _ _ _ _ _ _ _ => 1
def oneB (h : Bool) : Int := if h then 1 else 0
theorem kid_facts {W : World} {q : Pf} {i : Nat} {m : MT} (hq : goodP q = true) (hm : Mt W m) (hi : In q i (tr m)) (hw : WF (tr m)) : ∀ (b2 : Nat) (r : Pf) (x2 : Int) (h2 : Bool) (c2 : Int) (s2 t2 : MT), m = .node b2 r x2 h2 c2 s2 t2 →
    Nd W b2 r x2 h2 c2 (ptr s2) (ptr t2) ∧ goodP r = true ∧ r.a < 4294967296 ∧ wiP q r = true ∧ sd q r = i := by
  intro b2 r x2 h2 c2 s2 t2 e
  subst e
  have hr := hw.1.1
  have hc := side_cov hi
  refine ⟨hm.1, hr, hw.1.2, ?_, ?_⟩
  · rw [wi_is, cov_is hq hr, decide_eq_true hc, decide_eq_false (fun e : r = q => by have h1 := hi.1; rw [e] at h1; omega)]; rfl
  · rw [sd_bit hi.1 (good_len hr).2]; exact hi.2.2
set_option maxRecDepth 100000 in
set_option maxHeartbeats 4000000 in
theorem sound_any : ∀ (m : MT) (W : World), Mt W m → WF (tr m) → Fit m → (ents (tr m)).length ≤ 1000 → m ≠ .nil → Calls Try.prog 41 #[ptr m] W (Tells (.bool true) W)
  | .nil, _, _, _, _, _, hne => absurd rfl hne
  | .node b q x h c s t, W, hm, hw, hf, hl, _ => by
    have hlen : (ents (tr (.node b q x h c s t))).length = (topE q (if h then some x else none)).length + (ents (tr s)).length + (ents (tr t)).length := by
      show (topE q (if h then some x else none) ++ (ents (tr s) ++ ents (tr t))).length = _
      rw [List.length_append, List.length_append]; omega
    have IS := Go.Lib.hid (fun (hne : s ≠ .nil) (W' : World) (hb : Below W.heap.size W W') => sound_any s W' (hm.2.1.keep (fun k hk => hb.block k (hm.2.1.low k hk))) hw.2.2.2.2.1 hf.2.2.1 (by omega) hne)
    have IT := Go.Lib.hid (fun (hne : t ≠ .nil) (W' : World) (hb : Below W.heap.size W W') => sound_any t W' (hm.2.2.keep (fun k hk => hb.block k (hm.2.2.low k hk))) hw.2.2.2.2.2 hf.2.2.2 (by omega) hne)
    have WS := Go.Lib.hid (kid_facts hw.1.1 hm.2.1 hw.2.2.1 hw.2.2.2.2.1)
    have WT := Go.Lib.hid (kid_facts hw.1.1 hm.2.2 hw.2.2.2.1 hw.2.2.2.2.2)
    have HND := Go.Lib.hid hm.1
    have HQA := Go.Lib.hid hw.1.2
    have HLQ := Go.Lib.hid (good_len hw.1.1)
    have hcs := fit_cnt hf.2.2.1
    have hct := fit_cnt hf.2.2.2
    obtain ⟨c1, hc1⟩ : ∃ c1, c1 = oneB h + cntV s := ⟨_, rfl⟩
    obtain ⟨m1, hm1⟩ : ∃ m1, m1 = 0 + oneV s := ⟨_, rfl⟩
    obtain ⟨m2, hm2⟩ : ∃ m2, m2 = m1 + oneV t := ⟨_, rfl⟩
    have htop : ((topE q (if h then some x else none)).length : Int) = oneB h := by cases h <;> rfl
    have HC1 := Go.Lib.hid hc1
    have HC2 := Go.Lib.hid (show c = c1 + cntV t by rw [hf.1, hlen, hc1, hcs, hct, ← htop]; omega)
    have HM1 := Go.Lib.hid hm1
    have HM2 := Go.Lib.hid hm2
    have hob : 0 ≤ oneB h ∧ oneB h ≤ 1 := by cases h <;> exact ⟨by decide, by decide⟩
    have HNUM := Go.Lib.hid (show 0 ≤ cntV s ∧ cntV s ≤ 1000 ∧ 0 ≤ cntV t ∧ cntV t ≤ 1000 ∧ 0 ≤ c1 ∧ c1 ≤ 1001 by omega)
    have hone : ∀ k : MT, 0 ≤ oneV k ∧ oneV k ≤ 1 := fun k => by
      by_cases hk : k = .nil
      · rw [hk]; exact ⟨Int.le_refl 0, show (0 : Int) ≤ 1 by decide⟩
      · cases k with
        | nil => exact absurd rfl hk
        | node => exact ⟨show (0 : Int) ≤ 1 by decide, Int.le_refl 1⟩
    have HMB := Go.Lib.hid (show 0 ≤ m1 ∧ m1 ≤ 1 by have := hone s; omega)
    have HTWO := Go.Lib.hid (show h = false → m2 = 2 from fun hh => by
      obtain ⟨ha, hb⟩ := hw.2.1.resolve_left (by rw [hh]; simp)
      have h1 : oneV s = 1 := by cases s with
        | nil => exact absurd rfl ha
        | node => rfl
      have h2 : oneV t = 1 := by cases t with
        | nil => exact absurd rfl hb
        | node => rfl
      omega)
    obtain ⟨h0, hh0⟩ : ∃ h0, h0 = oneB h := ⟨_, rfl⟩
    have HH0 := Go.Lib.hid hh0
    rw [← hh0] at HC1
    have HHB := Go.Lib.hid (show 0 ≤ h0 ∧ h0 ≤ 1 by omega)
    obtain ⟨d0, d1, d2, d3, d4, d5, d6⟩ := HND.out.cells
    clear hm hw hf hl hlen hcs hct hc1 hm1 hm2 htop hob hone hh0
    rw [show ptr (.node b q x h c s t) = .pointer (some ⟨b, 0, none⟩) from rfl]
    rcases h with _ | _
    all_goals
      go_enter Try.func41, Try.ntmps41
      go_wp2_with fail
      generalize hAV : Value.agg #[ptr s, ptr t] = AV
      have HI0 := Go.Lib.hid (show ∀ w : World, (Instr.index 62 AV (.int .i64 0)).run Try.prog w = .ok (ptr s) w from fun w => by rw [← hAV]; simp [go_sem, Instr.index])
      have HI1 := Go.Lib.hid (show ∀ w : World, (Instr.index 62 AV (.int .i64 1)).run Try.prog w = .ok (ptr t) w from fun w => by rw [← hAV]; simp [go_sem, Instr.index])
      clear hAV
      go_loopw [3, 4, 15] (fun v3 v4 v15 wx => ((v15 = .int .i64 0 ∧ v3 = .int .i64 h0 ∧ v4 = .int .i64 0 ∧ Hid (Below W.heap.size W wx)) ∨ ((v15 = .int .i64 1 ∧ v3 = .int .i64 c1 ∧ v4 = .int .i64 m1 ∧ Hid (Below W.heap.size W wx)) ∨ (v15 = .int .i64 2 ∧ v3 = .int .i64 c ∧ v4 = .int .i64 m2 ∧ Hid (Below W.heap.size W wx))))) (fun _ _ v15 _ => 2 - (intOf v15).toNat)
      case atStart => exact .inl ⟨rfl, by rw [HH0.out]; rfl, rfl, Go.Lib.hid (Below.refl _ _)⟩
      case round =>
        rcases hrel with ⟨rfl, rfl, rfl, hb⟩ | ⟨rfl, rfl, rfl, hb⟩ | ⟨rfl, rfl, rfl, hb⟩
        · rcases nil_or s with hk | ⟨b2, r, x2, h2, c2, s2, t2, hk⟩
          · have HK := Go.Lib.hid hk
            have HC := Go.Lib.hid (show c1 = h0 by rw [HC1.out, hk]; show h0 + 0 = h0; omega)
            have HM := Go.Lib.hid (show m1 = 0 by rw [HM1.out, hk]; show 0 + 0 = 0; omega)
            have hi := HI0.out
            rw [hk, show ptr .nil = .pointer none from rfl] at hi
            clear hk
            go_wp2
            go_roundw
            case rel => exact .inr (.inl ⟨rfl, by rw [HC.out], by rw [HM.out], hb⟩)
            case measure => simp [intOf]
          · have HK := Go.Lib.hid hk
            obtain ⟨hnd2, hr, hra, hwi, hsd⟩ := WS.out b2 r x2 h2 c2 s2 t2 hk
            have IK := IS.out (by rw [hk]; exact fun e => by cases e)
            rw [hk, show ptr (.node b2 r x2 h2 c2 s2 t2) = .pointer (some ⟨b2, 0, none⟩) from rfl] at IK
            have hnk : ∀ W' : World, Below wr.heap.size wr W' → Nd W' b2 r x2 h2 c2 (ptr s2) (ptr t2) := fun W' h => ((Pfx.Below.tr hb.out h).block b2 hnd2.low).trans hnd2
            have hnq : ∀ W' : World, Below wr.heap.size wr W' → Nd W' b q x _ c (ptr s) (ptr t) := fun W' h => ((Pfx.Below.tr hb.out h).block b HND.out.low).trans HND.out
            obtain ⟨a0, a1, -, -, a4, -, -⟩ := (hnk wr (Below.refl _ _)).cells
            obtain ⟨e0, e1, -, -, -, -, -⟩ := (hnq wr (Below.refl _ _)).cells
            have CW := inRegion (fun W' => within_any r.a r.n q.a q.n hra HQA.out W') wr
            have e : withinB r.a r.n q.a q.n = wiP q r := rfl
            rw [e, hwi] at CW
            have CS := inReg (W := wr) (fun W' hW => side_any r (hnq W' hW) ⟨hra, good_wf hr⟩ HLQ.out.1 HLQ.out.2)
            rw [hsd] at CS
            have CI := inReg (W := wr) (fun W' hW => IK W' (Pfx.Below.tr hb.out hW))
            have k0 := cell_regrown a0
            have k1 := cell_regrown a1
            have k2 := cell_regrown e0
            have k3 := cell_regrown e1
            have HC := Go.Lib.hid (show c1 = h0 + c2 by rw [HC1.out, hk]; rfl)
            have HM := Go.Lib.hid (show m1 = 0 + 1 by rw [HM1.out, hk]; rfl)
            have HN2 := Go.Lib.hid hnk
            have y1 : IntKind.i64.wrap (h0 + c2) = h0 + c2 := by
              have h1 : cntV s = c2 := by rw [hk]; rfl
              have h2 := HNUM.out
              have h3 := HHB.out
              rw [IntKind.wrap_i64]; omega
            skip
            unfold pV at CS
            have hi := HI0.out
            rw [hk, show ptr (.node b2 r x2 h2 c2 s2 t2) = .pointer (some ⟨b2, 0, none⟩) from rfl] at hi
            clear hk hnd2 hwi hsd IK hnk hnq e a0 a1 e0 e1 hr hra
            go_wp2_with fail
            refine wp_region_quiet_below (by kernel_rfl) (by kernel_rfl) ?_
            repeat (first | go_big_quiet_step (first | exact CW _ _ | exact CS _ _ | exact CI _ _) | quiet_step (first | exact CW _ _ | exact CS _ _ | exact CI _ _))
            refine wpQuiet_nil ?_
            intro _ hw'
            obtain ⟨⟨dq, osq⟩, hw''⟩ := hw'
            subst hw''
            have HQ := Go.Lib.hid (below_regrown wr dq osq)
            obtain ⟨-, -, -, -, a4', -, -⟩ := (HN2.out _ HQ.out).cells
            generalize Go.Sort.grow (redrawn wr dq) osq = w2 at *
            clear k0 k1 k2 k3 CW CS CI a4
            go_wp2_with fail
            go_roundw
            case rel => exact .inr (.inl ⟨rfl, by rw [HC.out], by rw [HM.out]; rfl, Go.Lib.hid (Pfx.Below.tr hb.out HQ.out)⟩)
            case measure => simp [intOf]
        · rcases nil_or t with hk | ⟨b2, r, x2, h2, c2, s2, t2, hk⟩
          · have HK := Go.Lib.hid hk
            have HC := Go.Lib.hid (show c = c1 by rw [HC2.out, hk]; show c1 + 0 = c1; omega)
            have HM := Go.Lib.hid (show m2 = m1 by rw [HM2.out, hk]; show m1 + 0 = m1; omega)
            have hi := HI1.out
            rw [hk, show ptr .nil = .pointer none from rfl] at hi
            clear hk
            go_wp2
            go_roundw
            case rel => exact .inr (.inr ⟨rfl, by rw [HC.out], by rw [HM.out], hb⟩)
            case measure => simp [intOf]
          · have HK := Go.Lib.hid hk
            obtain ⟨hnd2, hr, hra, hwi, hsd⟩ := WT.out b2 r x2 h2 c2 s2 t2 hk
            have IK := IT.out (by rw [hk]; exact fun e => by cases e)
            rw [hk, show ptr (.node b2 r x2 h2 c2 s2 t2) = .pointer (some ⟨b2, 0, none⟩) from rfl] at IK
            have hnk : ∀ W' : World, Below wr.heap.size wr W' → Nd W' b2 r x2 h2 c2 (ptr s2) (ptr t2) := fun W' h => ((Pfx.Below.tr hb.out h).block b2 hnd2.low).trans hnd2
            have hnq : ∀ W' : World, Below wr.heap.size wr W' → Nd W' b q x _ c (ptr s) (ptr t) := fun W' h => ((Pfx.Below.tr hb.out h).block b HND.out.low).trans HND.out
            obtain ⟨a0, a1, -, -, a4, -, -⟩ := (hnk wr (Below.refl _ _)).cells
            obtain ⟨e0, e1, -, -, -, -, -⟩ := (hnq wr (Below.refl _ _)).cells
            have CW := inRegion (fun W' => within_any r.a r.n q.a q.n hra HQA.out W') wr
            have e : withinB r.a r.n q.a q.n = wiP q r := rfl
            rw [e, hwi] at CW
            have CS := inReg (W := wr) (fun W' hW => side_any r (hnq W' hW) ⟨hra, good_wf hr⟩ HLQ.out.1 HLQ.out.2)
            rw [hsd] at CS
            have CI := inReg (W := wr) (fun W' hW => IK W' (Pfx.Below.tr hb.out hW))
            have k0 := cell_regrown a0
            have k1 := cell_regrown a1
            have k2 := cell_regrown e0
            have k3 := cell_regrown e1
            have HC := Go.Lib.hid (show c = c1 + c2 by rw [HC2.out, hk]; rfl)
            have HM := Go.Lib.hid (show m2 = m1 + 1 by rw [HM2.out, hk]; rfl)
            have HN2 := Go.Lib.hid hnk
            have y1 : IntKind.i64.wrap (c1 + c2) = c1 + c2 := by
              have h1 : cntV t = c2 := by rw [hk]; rfl
              have h2 := HNUM.out
              have h3 := HMB.out
              rw [IntKind.wrap_i64]; omega
            have y2 : IntKind.i64.wrap (m1 + 1) = m1 + 1 := by (have h3 := HMB.out; rw [IntKind.wrap_i64]; omega)
            unfold pV at CS
            have hi := HI1.out
            rw [hk, show ptr (.node b2 r x2 h2 c2 s2 t2) = .pointer (some ⟨b2, 0, none⟩) from rfl] at hi
            clear hk hnd2 hwi hsd IK hnk hnq e a0 a1 e0 e1 hr hra
            go_wp2_with fail
            refine wp_region_quiet_below (by kernel_rfl) (by kernel_rfl) ?_
            repeat (first | go_big_quiet_step (first | exact CW _ _ | exact CS _ _ | exact CI _ _) | quiet_step (first | exact CW _ _ | exact CS _ _ | exact CI _ _))
            refine wpQuiet_nil ?_
            intro _ hw'
            obtain ⟨⟨dq, osq⟩, hw''⟩ := hw'
            subst hw''
            have HQ := Go.Lib.hid (below_regrown wr dq osq)
            obtain ⟨-, -, -, -, a4', -, -⟩ := (HN2.out _ HQ.out).cells
            generalize Go.Sort.grow (redrawn wr dq) osq = w2 at *
            clear k0 k1 k2 k3 CW CS CI a4
            go_wp2_with fail
            go_roundw
            case rel => exact .inr (.inr ⟨rfl, by rw [HC.out], by rw [HM.out], Go.Lib.hid (Pfx.Below.tr hb.out HQ.out)⟩)
            case measure => simp [intOf]
        · have hnq := (hb.out.block b HND.out.low).trans HND.out
          have a3 : wr.cell? ⟨b, 3, none⟩ = some (.bool _) := cell_at (i := 3) hnq rfl
          have a4 : wr.cell? ⟨b, 4, none⟩ = some (.int .i64 c) := cell_at (i := 4) hnq rfl
          have hcc : (c == c) = true := beq_self_eq_true c
          clear hnq d0 d1 d2 d3 d4 d5 d6
          go_wp2
          go_ret
          refine ⟨?_, hb.out⟩
          first
            | rfl
            | (rw [HTWO.out (by simp)]; rfl)
set_option maxRecDepth 100000 in
set_option maxHeartbeats 4000000 in
theorem check_m {W : World} {tb : Nat} {m : MT} (hT : TreeM W tb m) (hw : WF (tr m)) (hf : Fit m) (hl : (ents (tr m)).length ≤ 1000) :
    Calls Try.prog 22 #[.pointer (some ⟨tb, 0, none⟩)] W (Tells (.bool true) W) := by
  have c0 : W.cell? ⟨tb, 0, none⟩ = some (ptr m) := cell_at hT.1 rfl
  have HT := Go.Lib.hid hT
  rcases nil_or m with hm | ⟨b, q, x, h, c, s, t, hm⟩
  · subst hm
    rw [show ptr .nil = .pointer none from rfl] at c0
    clear hT
    go_enter Try.func22, Try.ntmps22
    go_wp2
    go_ret
    exact ⟨rfl, Below.refl _ _⟩
  · have CS := Go.Lib.hid (fun (W' : World) (hb : Below W.heap.size W W') => sound_any m W' (hT.2.1.keep (fun k hk => hb.block k (hT.2.1.low k hk))) hw hf hl (by rw [hm]; exact fun e => by cases e))
    rw [hm] at c0 CS
    have hq : goodB q.a q.n = true := by rw [hm] at hw; exact hw.1.1
    have hqa : q.a < 4294967296 := by rw [hm] at hw; exact hw.1.2
    have hnd : Nd W b q x h c (ptr s) (ptr t) := by have := hT.2.1; rw [hm] at this; exact this.1
    have CG := Go.Lib.hid (fun W => good_any q.a q.n hqa W)
    rw [hq] at CG
    rw [show ptr (.node b q x h c s t) = .pointer (some ⟨b, 0, none⟩) from rfl] at c0 CS
    have e0 : W.cell? ⟨b, 0, none⟩ = some (.int .u32 q.a) := cell_at (i := 0) hnd rfl
    have e1 : W.cell? ⟨b, 1, none⟩ = some (.int .i64 q.n) := cell_at (i := 1) hnd rfl
    have hbl := hnd.low
    have htl := hT.low tb (.inl rfl)
    clear hT hw hf hl hm hq hqa hnd
    go_enter Try.func22, Try.ntmps22
    go_wp2_with (first
      | (go_at_call 40; refine (CG.out _).mono ?_; rintro e w1 ⟨rfl, hb1⟩; have B1 := Go.Lib.hid hb1; replace c0 := (hb1.cell (p := ⟨tb, 0, none⟩) htl).trans c0; clear hb1)
      | (go_at_call 41; refine (CS.out _ B1.out).mono ?_; rintro e w2 ⟨rfl, hb2⟩; have B2 := Go.Lib.hid (B1.out.trans (hb2.mono B1.out.size)); clear hb2))
    go_ret
    exact ⟨rfl, B2.out⟩
end Go.Proofs.Ytpcahgnibdampaa.Tri
