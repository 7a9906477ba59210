/- The contracts of the trie's Get, Len and Count. -/
import Derived.Test.YtpcahgnibdampaaTriM
import Derived.Outline
import Derived.Deep.DeepCutAuto
import Derived.Deep.CutRange
import Derived.Deep.Cut
import Derived.Laws.Tables
import Derived.BigQuiet
import Derived.Deep.RegionHeld3
import Derived.Lib.QuietBelow
namespace Go.Proofs.Ytpcahgnibdampaa.Tri
open Go.RowKit Mem PR Pfx Oct

/-- What is at the top of a tree, or of none. -/
structure Topped (W : World) (tv : Value) (m : MT) : Prop where
  top : ∀ W', Below W.heap.size W W' → Calls Try.prog 31 #[tv] W' (Tells (ptr m) W')
  mt : Mt W m
theorem Topped.of_tree {W : World} {tb : Nat} {m : MT} (h : TreeM W tb m) : Topped W (.pointer (some ⟨tb, 0, none⟩)) m := ⟨fun _ hb => top_any (h.below hb), h.2.1⟩
theorem Topped.none (W : World) : Topped W (.pointer none) .nil := ⟨fun W' _ => top_nil W', trivial⟩
theorem Topped.below {W W' : World} {tv : Value} {m : MT} (h : Topped W tv m) (hb : Below W.heap.size W W') : Topped W' tv m :=
  ⟨fun W2 h2 => h.top W2 (Pfx.Below.tr hb h2), h.mt.keep (fun k hk => hb.block k (h.mt.low k hk))⟩
theorem said_none (p : Pf) (b : Nat) (q : Pf) (x : Int) (h : Bool) (c : Int) (s t : MT) (hn : q ≠ p) : told p (.node b q x h c s t) = none := by rw [told_node, if_neg hn]
set_option maxRecDepth 100000 in
set_option maxHeartbeats 4000000 in
theorem get_m {W : World} {tv : Value} {m : MT} (p : Pf) (hp : p.ok) (hT : Topped W tv m) (hw : WF (tr m)) :
    Calls Try.prog 11 #[tv, pV p] W (Tells (.tuple #[.int .i64 ((told p (subM m p)).getD 0), .bool (told p (subM m p)).isSome]) W) := by
  have hb := below_new W (.cells #[.int .u32 (p.a : Int), .int .i64 p.n] 25)
  obtain ⟨c0, c1⟩ := cells_two W (.int .u32 (p.a : Int)) (.int .i64 p.n) 25
  have HB := Go.Lib.hid hb
  have HM := Go.Lib.hid (sub_mt (p := p) hT.mt)
  have HCT := Go.Lib.hid (fun (W' : World) (h : Below (W.alloc (.cells #[.int .u32 (p.a : Int), .int .i64 p.n] 25)).heap.size (W.alloc (.cells #[.int .u32 (p.a : Int), .int .i64 p.n] 25)) W') => hT.top W' (Pfx.Below.tr hb h))
  have HCU := Go.Lib.hid (fun (W' : World) (h : Below (W.alloc (.cells #[.int .u32 (p.a : Int), .int .i64 p.n] 25)).heap.size (W.alloc (.cells #[.int .u32 (p.a : Int), .int .i64 p.n] 25)) W') => under_any p hp m W' (hT.below (Pfx.Below.tr hb h)).mt (good_of_wf m hw))
  clear hb hT hw
  generalize subM m p = S at *
  obtain ⟨T, hTd⟩ : ∃ T, told p S = T := ⟨_, rfl⟩
  rw [hTd]
  have HTD := Go.Lib.hid hTd
  clear hTd
  unfold pV at *
  go_enter Try.func11, Try.ntmps11
  go_wp2_with fail
  obtain ⟨W1, hW1⟩ : ∃ W1, W.alloc (.cells #[.int .u32 (p.a : Int), .int .i64 p.n] 25) = W1 := ⟨_, rfl⟩
  rw [hW1] at c0 c1 HB HCT HCU ⊢
  clear hW1
  have k0 := cell_regrown c0
  have k1 := cell_regrown c1
  have CT := inReg HCT.out
  have CU := inReg HCU.out
  refine wp_region_quiet_below (by kernel_rfl) (by kernel_rfl) ?_
  repeat (first | go_big_quiet_step (first | exact CT _ _ | exact CU _ _) | quiet_step (first | exact CT _ _ | exact CU _ _))
  refine wpQuiet_nil ?_
  intro _ hw'
  obtain ⟨⟨dq, osq⟩, hw''⟩ := hw'
  subst hw''
  have HQ := Go.Lib.hid (Pfx.Below.tr HB.out (below_regrown W1 dq osq))
  have HM2 := Go.Lib.hid (HM.out.keep (fun k hk => HQ.out.block k (HM.out.low k hk)))
  replace c0 := ((below_regrown W1 dq osq).cell (p := ⟨W.heap.size, 0, none⟩) (block_lt_of_cell c0)).trans c0
  replace c1 := ((below_regrown W1 dq osq).cell (p := ⟨W.heap.size, 1, none⟩) (block_lt_of_cell c1)).trans c1
  generalize Go.Sort.grow (redrawn W1 dq) osq = w2 at *
  clear k0 k1 CT CU HCT HCU
  cases S with
  | nil =>
    rw [show ptr .nil = .pointer none from rfl]
    go_wp2_with fail
    refine wp_region_quiet_below (by kernel_rfl) (by kernel_rfl) ?_
    repeat (first | go_big_quiet_step (fail) | quiet_step (fail))
    refine wpQuiet_nil ?_
    intro _ hw'
    obtain ⟨⟨dq, osq⟩, hw''⟩ := hw'
    subst hw''
    go_wp2
    go_ret2
    exact ⟨by rw [← HTD.out]; rfl, Pfx.Below.tr HQ.out (below_regrown w2 dq osq)⟩
  | node b q x h c s t =>
    obtain ⟨hnd, -, -⟩ := HM2.out
    obtain ⟨d0, d1, d2, d3, -, -, -⟩ := hnd.cells
    have k0 := cell_regrown c0
    have k1 := cell_regrown c1
    have k2 := cell_regrown d0
    have k3 := cell_regrown d1
    have k4 := cell_regrown d3
    rw [show ptr (.node b q x h c s t) = .pointer (some ⟨b, 0, none⟩) from rfl]
    clear hnd
    by_cases he : q = p
    · subst he
      cases h with
      | false =>
        go_wp2_with fail
        refine wp_region_quiet_below (by kernel_rfl) (by kernel_rfl) ?_
        repeat (first | go_big_quiet_step (fail) | quiet_step (fail))
        refine wpQuiet_nil ?_
        intro _ hw'
        obtain ⟨⟨dq, osq⟩, hw''⟩ := hw'
        subst hw''
        go_wp2
        go_ret2
        exact ⟨by rw [← HTD.out, told_node, if_pos rfl]; rfl, Pfx.Below.tr HQ.out (below_regrown w2 dq osq)⟩
      | true =>
        go_wp2_with fail
        refine wp_region_quiet_below (by kernel_rfl) (by kernel_rfl) ?_
        repeat (first | go_big_quiet_step (fail) | quiet_step (fail))
        refine wpQuiet_nil ?_
        intro _ hw'
        obtain ⟨⟨dq, osq⟩, hw''⟩ := hw'
        subst hw''
        have HQ3 := Go.Lib.hid (below_regrown w2 dq osq)
        have d2' := (HQ3.out.cell (p := ⟨b, 2, none⟩) (block_lt_of_cell d2)).trans d2
        generalize Go.Sort.grow (redrawn w2 dq) osq = w3 at *
        clear k0 k1 k2 k3 k4 c0 c1 d0 d1 d2 d3
        go_wp2
        go_ret2
        exact ⟨by rw [← HTD.out, told_node, if_pos rfl]; rfl, Pfx.Below.tr HQ.out HQ3.out⟩
    · have HT := Go.Lib.hid (said_none p b q x h c s t he)
      have hap := pf_apart he
      clear he
      obtain ⟨qa, qn⟩ := q
      obtain ⟨pa, pn⟩ := p
      dsimp only at *
      rcases hap with y1 | ⟨rfl, y1⟩
      all_goals
        go_wp2_with fail
        refine wp_region_quiet_below (by kernel_rfl) (by kernel_rfl) ?_
        repeat (first | go_big_quiet_step (fail) | quiet_step (fail))
        refine wpQuiet_nil ?_
        intro _ hw'
        obtain ⟨⟨dq, osq⟩, hw''⟩ := hw'
        subst hw''
        go_wp2
        go_ret2
        exact ⟨by rw [← HTD.out, HT.out]; rfl, Pfx.Below.tr HQ.out (below_regrown w2 dq osq)⟩
set_option maxRecDepth 100000 in
set_option maxHeartbeats 4000000 in
theorem len_m {W : World} {tv : Value} {m : MT} (hT : Topped W tv m) : Calls Try.prog 19 #[tv] W (Tells (.int .i64 (cntV m)) W) := by
  have CT := Go.Lib.hid (hT.top W (Below.refl _ _))
  have CS := Go.Lib.hid (fun (w : World) (h : Below W.heap.size W w) => size_any (hT.below h).mt)
  clear hT
  go_enter Try.func19, Try.ntmps19
  go_wp2_with (first
    | (go_at_call 31; refine CT.out.mono ?_; rintro e w1 ⟨rfl, hb1⟩; have B1 := Go.Lib.hid hb1; clear hb1)
    | (go_at_call 38; refine (CS.out _ B1.out).mono ?_; rintro e w2 ⟨rfl, hb2⟩; have B2 := Go.Lib.hid (B1.out.trans (hb2.mono B1.out.size)); clear hb2))
  go_ret
  exact ⟨rfl, B2.out⟩
set_option maxRecDepth 100000 in
set_option maxHeartbeats 4000000 in
theorem count_m {W : World} {tv : Value} {m : MT} (p : Pf) (hp : p.ok) (hT : Topped W tv m) (hw : WF (tr m)) :
    Calls Try.prog 18 #[tv, pV p] W (Tells (.int .i64 (cntV (subM m p))) W) := by
  have hb := below_new W (.cells #[.int .u32 (p.a : Int), .int .i64 p.n] 25)
  obtain ⟨c0, c1⟩ := cells_two W (.int .u32 (p.a : Int)) (.int .i64 p.n) 25
  have HB := Go.Lib.hid hb
  have HCT := Go.Lib.hid (fun (W' : World) (h : Below W.heap.size W W') => hT.top W' h)
  have HCU := Go.Lib.hid (fun (W' : World) (h : Below W.heap.size W W') => under_any p hp m W' (hT.below h).mt (good_of_wf m hw))
  have HCS := Go.Lib.hid (fun (W' : World) (h : Below W.heap.size W W') => size_any (sub_mt (p := p) (hT.below h).mt))
  clear hb hT hw
  generalize subM m p = S at *
  unfold pV at *
  go_enter Try.func18, Try.ntmps18
  go_wp2_with fail
  obtain ⟨W1, hW1⟩ : ∃ W1, W.alloc (.cells #[.int .u32 (p.a : Int), .int .i64 p.n] 25) = W1 := ⟨_, rfl⟩
  rw [hW1] at c0 c1 HB ⊢
  clear hW1
  have k0 := cell_regrown c0
  have k1 := cell_regrown c1
  have CT := inReg (W := W1) (fun W' h => HCT.out W' (Pfx.Below.tr HB.out h))
  have CU := inReg (W := W1) (fun W' h => HCU.out W' (Pfx.Below.tr HB.out h))
  have CS := inReg (W := W1) (fun W' h => HCS.out W' (Pfx.Below.tr HB.out h))
  refine wp_region_quiet_below (by kernel_rfl) (by kernel_rfl) ?_
  repeat (first | go_big_quiet_step (first | exact CT _ _ | exact CU _ _ | exact CS _ _) | quiet_step (first | exact CT _ _ | exact CU _ _ | exact CS _ _))
  refine wpQuiet_nil ?_
  intro _ hw'
  obtain ⟨⟨dq, osq⟩, hw''⟩ := hw'
  subst hw''
  go_wp2
  go_ret
  exact ⟨rfl, Pfx.Below.tr HB.out (below_regrown W1 dq osq)⟩
end Go.Proofs.Ytpcahgnibdampaa.Tri
