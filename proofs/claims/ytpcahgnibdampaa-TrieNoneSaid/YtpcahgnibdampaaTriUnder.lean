/- The contracts of the trie's under and place: both go down along a prefix, and only read. -/
import Derived.Test.YtpcahgnibdampaaTriOver
import Derived.Outline
import Derived.Deep.Cut
import Derived.Laws.Tables
import Derived.BigQuiet
import Derived.Deep.RegionHeld3
import Derived.Lib.QuietBelow
namespace Go.Proofs.Ytpcahgnibdampaa.Tri
open Go.RowKit Mem PR Pfx Oct

/-- All prefixes are good. -/
def GoodM : MT → Prop
  | .nil => True
  | .node _ q _ _ _ s t => (goodP q = true ∧ q.a < 4294967296) ∧ GoodM s ∧ GoodM t
theorem good_of_wf : ∀ (m : MT), WF (tr m) → GoodM m
  | .nil, _ => trivial
  | .node _ _ _ _ _ s t, h => ⟨h.1, good_of_wf s h.2.2.2.2.1, good_of_wf t h.2.2.2.2.2⟩
/-- Whether q covers p, and is another one. -/
def wiP (q p : Pf) : Bool := withinB p.a p.n q.a q.n
theorem wi_is (q p : Pf) : wiP q p = (!decide (p = q) && covP q p) := by
  unfold wiP withinB covP
  congr 2
  exact decide_eq_decide.2 ⟨fun h => pf_ext h.1 h.2, fun h => by rw [h]; exact ⟨rfl, rfl⟩⟩
def subM : MT → Pf → MT
  | .nil, _ => .nil
  | .node b q x h c s t, p => if wiP q p then (if sd q p = 0 then subM s p else subM t p) else if covP p q then .node b q x h c s t else .nil
theorem subM_low {b : Nat} {q p : Pf} {x : Int} {h : Bool} {c : Int} {s t : MT} (h1 : wiP q p = true) (h2 : sd q p = 0) : subM (.node b q x h c s t) p = subM s p := by rw [subM, if_pos h1, if_pos h2]
theorem subM_high {b : Nat} {q p : Pf} {x : Int} {h : Bool} {c : Int} {s t : MT} (h1 : wiP q p = true) (h2 : sd q p = 1) : subM (.node b q x h c s t) p = subM t p := by rw [subM, if_pos h1, if_neg (by rw [h2]; decide)]
def down (p : Pf) : List Fr → MT → List Fr × MT
  | fs, .nil => (fs, .nil)
  | fs, .node b q x h c s t => if wiP q p then (if sd q p = 0 then down p (⟨b, q, x, h, c, false, t⟩ :: fs) s else down p (⟨b, q, x, h, c, true, s⟩ :: fs) t) else (fs, .node b q x h c s t)
set_option maxRecDepth 100000 in
set_option maxHeartbeats 4000000 in
theorem under_any (p : Pf) (hp : p.ok) (m0 : MT) (w : World) (hm : Mt w m0) (hg : GoodM m0) : Calls Try.prog 30 #[ptr m0, pV p] w (Tells (ptr (subM m0 p)) w) := by
  have hb := below_new w (.cells #[.int .u32 (p.a : Int), .int .i64 p.n] 25)
  obtain ⟨c0, c1⟩ := cells_two w (.int .u32 (p.a : Int)) (.int .i64 p.n) 25
  have HM := Go.Lib.hid hm
  have HG := Go.Lib.hid hg
  have HB := Go.Lib.hid hb
  clear hm hg hb
  unfold pV
  go_enter Try.func30, Try.ntmps30
  go_wp2_with fail
  generalize hW1 : w.alloc (.cells #[.int .u32 (p.a : Int), .int .i64 p.n] 25) = W1 at *
  clear hW1
  generalize hn0 : w.heap.size = n0 at *
  have N0 := Go.Lib.hid hn0
  clear hn0
  go_loopw [0] (fun v0 wx => ∃ n, ∃ m, n = msize m ∧ v0 = ptr m ∧ Hid (subM m p = subM m0 p) ∧ Hid (Mt w m) ∧ Hid (GoodM m) ∧ Hid (Below W1.heap.size W1 wx))
    (fun v0 wx => least (fun n => ∃ m, n = msize m ∧ v0 = ptr m ∧ Hid (subM m p = subM m0 p) ∧ Hid (Mt w m) ∧ Hid (GoodM m) ∧ Hid (Below W1.heap.size W1 wx)))
  case atStart => exact ⟨_, m0, rfl, rfl, rfl, HM, HG, Below.refl _ _⟩
  case round =>
    have hmz := least_is hrel
    obtain ⟨m, hm, rfl, hsub, hmt, hgm, hbw⟩ := hmz
    have HZ := Go.Lib.hid hm
    clear hm hrel
    have cp0 := (hbw.out.cell (p := ⟨n0, 0, none⟩) (block_lt_of_cell c0)).trans c0
    have cp1 := (hbw.out.cell (p := ⟨n0, 1, none⟩) (block_lt_of_cell c1)).trans c1
    have HWW := Go.Lib.hid (Pfx.Below.tr (N0.out ▸ HB.out) hbw.out)
    cases m with
    | nil =>
      unfold ptr
      go_wp2_with fail
      refine wp_region_quiet_below (by kernel_rfl) (by kernel_rfl) ?_
      repeat (first | go_big_quiet_step (fail) | quiet_step (fail))
      refine wpQuiet_nil ?_
      intro _ hw'
      obtain ⟨⟨dq, osq⟩, hw''⟩ := hw'
      subst hw''
      have HQ := below_regrown wr dq osq
      generalize Go.Sort.grow (redrawn wr dq) osq = w2 at *
      go_wp2_with fail
      refine wp_region_quiet_below (by kernel_rfl) (by kernel_rfl) ?_
      repeat (first | go_big_quiet_step (fail) | quiet_step (fail))
      refine wpQuiet_nil ?_
      intro _ hw'
      obtain ⟨⟨dq, osq⟩, hw''⟩ := hw'
      subst hw''
      go_wp2
      go_ret
      exact ⟨by rw [← hsub.out]; rfl, Pfx.Below.tr HWW.out (Pfx.Below.tr HQ (below_regrown w2 dq osq))⟩
    | node b q x h c s t =>
      obtain ⟨hnd, hms, hmt2⟩ := hmt.out
      obtain ⟨⟨hgood, hqa⟩, hgs, hgt⟩ := hgm.out
      obtain ⟨d0, d1, -, -, -, d5, d6⟩ := hnd.cells
      have hlow := hnd.low
      replace d0 := (HWW.out.cell (p := ⟨b, 0, none⟩) hlow).trans d0
      replace d1 := (HWW.out.cell (p := ⟨b, 1, none⟩) hlow).trans d1
      have HND := Go.Lib.hid (fun (W : World) (hw : Below wr.heap.size wr W) => (((Pfx.Below.tr HWW.out hw).block b hlow).trans hnd : Nd W b q x h c (ptr s) (ptr t)))
      have hlen := good_len hgood
      have HL2 := Go.Lib.hid hlen
      have CC := inRegion (fun W => within_any p.a p.n q.a q.n hp.1 hqa W) wr
      have CV := Go.Lib.hid (fun W => covers_any p.a p.n q.a q.n hp.1 hqa W)
      have CK := Go.Lib.hid (fun (w3 : World) (hn : Nd w3 b q x h c (ptr s) (ptr t)) => kid_any (W := w3) p hn hp HL2.out.1 HL2.out.2)
      unfold pV at CK
      have HS := Go.Lib.hid hms
      have HT := Go.Lib.hid hmt2
      have HGS := Go.Lib.hid hgs
      have HGT := Go.Lib.hid hgt
      have e : withinB p.a p.n q.a q.n = wiP q p := rfl
      have e2 : coversB p.a p.n q.a q.n = covP p q := rfl
      rw [e] at CC
      rw [e2] at CV
      have k0 := cell_regrown d0
      have k1 := cell_regrown d1
      have k2 := cell_regrown cp0
      have k3 := cell_regrown cp1
      unfold ptr
      clear hlen e e2 hnd hms hmt2 hgs hgt hgood hlow d5 d6
      cases hc : wiP q p with
      | false =>
        rw [hc] at CC
        have HC := Go.Lib.hid hc
        clear hc
        cases hv : covP p q with
        | false =>
          rw [hv] at CV
          have HV := Go.Lib.hid hv
          clear hv
          go_wp2_with fail
          refine wp_region_quiet_below (by kernel_rfl) (by kernel_rfl) ?_
          repeat (first | go_big_quiet_step (exact CC _ _) | quiet_step (exact CC _ _))
          refine wpQuiet_nil ?_
          intro _ hw'
          obtain ⟨⟨dq, osq⟩, hw''⟩ := hw'
          subst hw''
          have HQ := below_regrown wr dq osq
          have k4 := (HQ.cell (p := ⟨b, 0, none⟩) (block_lt_of_cell d0)).trans d0
          have k5 := (HQ.cell (p := ⟨b, 1, none⟩) (block_lt_of_cell d1)).trans d1
          have k6 := (HQ.cell (p := ⟨n0, 0, none⟩) (block_lt_of_cell cp0)).trans cp0
          have k7 := (HQ.cell (p := ⟨n0, 1, none⟩) (block_lt_of_cell cp1)).trans cp1
          have HQ2 := Go.Lib.hid HQ
          generalize Go.Sort.grow (redrawn wr dq) osq = w2 at *
          replace k0 := cell_regrown k4
          replace k1 := cell_regrown k5
          replace k2 := cell_regrown k6
          replace k3 := cell_regrown k7
          have CC2 := inRegion CV.out w2
          clear CC k4 k5 k6 k7 d0 d1 cp0 cp1 HQ
          go_wp2_with fail
          refine wp_region_quiet_below (by kernel_rfl) (by kernel_rfl) ?_
          repeat (first | go_big_quiet_step (exact CC2 _ _) | quiet_step (exact CC2 _ _))
          refine wpQuiet_nil ?_
          intro _ hw'
          obtain ⟨⟨dq, osq⟩, hw''⟩ := hw'
          subst hw''
          go_wp2
          go_ret
          refine ⟨?_, Pfx.Below.tr HWW.out (Pfx.Below.tr HQ2.out (below_regrown w2 dq osq))⟩
          rw [← hsub.out]; unfold subM; rw [HC.out, HV.out]; rfl
        | true =>
          rw [hv] at CV
          have HV := Go.Lib.hid hv
          clear hv
          go_wp2_with fail
          refine wp_region_quiet_below (by kernel_rfl) (by kernel_rfl) ?_
          repeat (first | go_big_quiet_step (exact CC _ _) | quiet_step (exact CC _ _))
          refine wpQuiet_nil ?_
          intro _ hw'
          obtain ⟨⟨dq, osq⟩, hw''⟩ := hw'
          subst hw''
          have HQ := below_regrown wr dq osq
          have k4 := (HQ.cell (p := ⟨b, 0, none⟩) (block_lt_of_cell d0)).trans d0
          have k5 := (HQ.cell (p := ⟨b, 1, none⟩) (block_lt_of_cell d1)).trans d1
          have k6 := (HQ.cell (p := ⟨n0, 0, none⟩) (block_lt_of_cell cp0)).trans cp0
          have k7 := (HQ.cell (p := ⟨n0, 1, none⟩) (block_lt_of_cell cp1)).trans cp1
          have HQ2 := Go.Lib.hid HQ
          generalize Go.Sort.grow (redrawn wr dq) osq = w2 at *
          replace k0 := cell_regrown k4
          replace k1 := cell_regrown k5
          replace k2 := cell_regrown k6
          replace k3 := cell_regrown k7
          have CC2 := inRegion CV.out w2
          clear CC k4 k5 k6 k7 d0 d1 cp0 cp1 HQ
          go_wp2_with fail
          refine wp_region_quiet_below (by kernel_rfl) (by kernel_rfl) ?_
          repeat (first | go_big_quiet_step (exact CC2 _ _) | quiet_step (exact CC2 _ _))
          refine wpQuiet_nil ?_
          intro _ hw'
          obtain ⟨⟨dq, osq⟩, hw''⟩ := hw'
          subst hw''
          go_wp2
          go_ret
          refine ⟨?_, Pfx.Below.tr HWW.out (Pfx.Below.tr HQ2.out (below_regrown w2 dq osq))⟩
          rw [← hsub.out]; unfold subM; rw [HC.out, HV.out]; rfl
      | true =>
        rw [hc] at CC
        have HC := Go.Lib.hid hc
        clear hc CV
        rcases sd_two q p with hsd | hsd
        · rw [hsd, Nat.add_zero] at CK
          have HSD := Go.Lib.hid hsd
          clear hsd
          go_wp2_with fail
          refine wp_region_quiet_below (by kernel_rfl) (by kernel_rfl) ?_
          repeat (first | go_big_quiet_step (exact CC _ _) | quiet_step (exact CC _ _))
          refine wpQuiet_nil ?_
          intro _ hw'
          obtain ⟨⟨dq, osq⟩, hw''⟩ := hw'
          subst hw''
          have HQ := Go.Lib.hid (below_regrown wr dq osq)
          have b0 := (HQ.out.cell (p := ⟨n0, 0, none⟩) (block_lt_of_cell cp0)).trans cp0
          have b1 := (HQ.out.cell (p := ⟨n0, 1, none⟩) (block_lt_of_cell cp1)).trans cp1
          generalize Go.Sort.grow (redrawn wr dq) osq = w2 at *
          clear CC k0 k1 k2 k3 d0 d1 cp0 cp1
          go_wp2_with (go_at_call 52; refine (CK.out _ (HND.out _ HQ.out)).mono ?_; rintro e w4 ⟨rfl, hb4⟩; have HB4 := Go.Lib.hid hb4; have g : w4.cell? ⟨b, 5, none⟩ = some (ptr s) := cell_at (HND.out _ (HQ.out.trans (hb4.mono HQ.out.size))) rfl; clear hb4 b0 b1)
          go_roundw
          all_goals
            have hnew : ∃ m, msize s = msize m ∧ ptr s = ptr m ∧ Hid (subM m p = subM m0 p) ∧ Hid (Mt w m) ∧ Hid (GoodM m) ∧ Hid (Below W1.heap.size W1 w4) :=
              ⟨s, rfl, rfl, (show subM s p = subM m0 p from (subM_low HC.out HSD.out).symm.trans hsub.out), HS.out, HGS.out, hbw.out.trans ((HQ.out.trans (HB4.out.mono HQ.out.size)).mono hbw.out.size)⟩
          case rel => exact ⟨_, hnew⟩
          case measure =>
            refine Nat.lt_of_le_of_lt (least_le hnew) ?_
            have := HZ.out
            unfold ptr at *
            simp only [msize] at this
            omega
        · rw [hsd, show 5 + 1 = 6 from rfl] at CK
          have HSD := Go.Lib.hid hsd
          clear hsd
          go_wp2_with fail
          refine wp_region_quiet_below (by kernel_rfl) (by kernel_rfl) ?_
          repeat (first | go_big_quiet_step (exact CC _ _) | quiet_step (exact CC _ _))
          refine wpQuiet_nil ?_
          intro _ hw'
          obtain ⟨⟨dq, osq⟩, hw''⟩ := hw'
          subst hw''
          have HQ := Go.Lib.hid (below_regrown wr dq osq)
          have b0 := (HQ.out.cell (p := ⟨n0, 0, none⟩) (block_lt_of_cell cp0)).trans cp0
          have b1 := (HQ.out.cell (p := ⟨n0, 1, none⟩) (block_lt_of_cell cp1)).trans cp1
          generalize Go.Sort.grow (redrawn wr dq) osq = w2 at *
          clear CC k0 k1 k2 k3 d0 d1 cp0 cp1
          go_wp2_with (go_at_call 52; refine (CK.out _ (HND.out _ HQ.out)).mono ?_; rintro e w4 ⟨rfl, hb4⟩; have HB4 := Go.Lib.hid hb4; have g : w4.cell? ⟨b, 6, none⟩ = some (ptr t) := cell_at (HND.out _ (HQ.out.trans (hb4.mono HQ.out.size))) rfl; clear hb4 b0 b1)
          go_roundw
          all_goals
            have hnew : ∃ m, msize t = msize m ∧ ptr t = ptr m ∧ Hid (subM m p = subM m0 p) ∧ Hid (Mt w m) ∧ Hid (GoodM m) ∧ Hid (Below W1.heap.size W1 w4) :=
              ⟨t, rfl, rfl, (show subM t p = subM m0 p from (subM_high HC.out HSD.out).symm.trans hsub.out), HT.out, HGT.out, hbw.out.trans ((HQ.out.trans (HB4.out.mono HQ.out.size)).mono hbw.out.size)⟩
          case rel => exact ⟨_, hnew⟩
          case measure =>
            refine Nat.lt_of_le_of_lt (least_le hnew) ?_
            have := HZ.out
            unfold ptr at *
            simp only [msize] at this
            omega

theorem down_low {b : Nat} {q p : Pf} {x : Int} {h : Bool} {c : Int} {s t : MT} {fs : List Fr} (h1 : wiP q p = true) (h2 : sd q p = 0) : down p fs (.node b q x h c s t) = down p (⟨b, q, x, h, c, false, t⟩ :: fs) s := by rw [down, if_pos h1, if_pos h2]
theorem down_high {b : Nat} {q p : Pf} {x : Int} {h : Bool} {c : Int} {s t : MT} {fs : List Fr} (h1 : wiP q p = true) (h2 : sd q p = 1) : down p fs (.node b q x h c s t) = down p (⟨b, q, x, h, c, true, s⟩ :: fs) t := by rw [down, if_pos h1, if_neg (by rw [h2]; decide)]
theorem down_stop {b : Nat} {q p : Pf} {x : Int} {h : Bool} {c : Int} {s t : MT} {fs : List Fr} (h1 : wiP q p = false) : down p fs (.node b q x h c s t) = (fs, .node b q x h c s t) := by rw [down, if_neg (by rw [h1]; decide)]
/-- The place above. -/
def aboveV (tb : Nat) : List Fr → Value
  | [] => .pointer none
  | _ :: fs => .pointer (some (hereA tb fs))
theorem good_put (f : Fr) (m : MT) (h : GoodM (f.put m)) : GoodM m := by
  unfold Fr.put at h
  split at h
  · exact h.2.2
  · exact h.2.1
theorem good_plug : ∀ (fs : List Fr) (m : MT), GoodM (plug fs m) → GoodM m
  | [], _, h => h
  | f :: fs, m, h => good_put f m (good_plug fs (f.put m) h)
theorem here_form (tb : Nat) (fs : List Fr) : ∃ b i, hereA tb fs = ⟨b, i, none⟩ := by
  cases fs with
  | nil => exact ⟨_, _, rfl⟩
  | cons f fs => exact ⟨_, _, rfl⟩
set_option maxRecDepth 100000 in
set_option maxHeartbeats 4000000 in
theorem place_any (p : Pf) (hp : p.ok) (tb : Nat) (m0 : MT) (w : World) (hT : TreeM w tb m0) (hg : GoodM m0) :
    Calls Try.prog 43 #[.pointer (some ⟨tb, 0, none⟩), pV p] w (Tells (.tuple #[.pointer (some (hereA tb (down p [] m0).1)), aboveV tb (down p [] m0).1]) w) := by
  have hb := below_new w (.cells #[.int .u32 (p.a : Int), .int .i64 p.n] 25)
  obtain ⟨c0, c1⟩ := cells_two w (.int .u32 (p.a : Int)) (.int .i64 p.n) 25
  have HT0 := Go.Lib.hid hT
  have HG := Go.Lib.hid hg
  have HB := Go.Lib.hid hb
  clear hT hg hb
  unfold pV
  go_enter Try.func43, Try.ntmps43
  go_wp2_with fail
  generalize hW1 : w.alloc (.cells #[.int .u32 (p.a : Int), .int .i64 p.n] 25) = W1 at *
  clear hW1
  generalize hn0 : w.heap.size = n0 at *
  have N0 := Go.Lib.hid hn0
  clear hn0
  go_loopw [4, 5] (fun v4 v5 wx => ∃ n, ∃ (fs : List Fr) (m : MT), n = msize m ∧ v4 = .pointer (some (hereA tb fs)) ∧ v5 = aboveV tb fs ∧ Hid (down p fs m = down p [] m0) ∧ Hid (plug fs m = m0) ∧ Hid (Below W1.heap.size W1 wx))
    (fun v4 v5 wx => least (fun n => ∃ (fs : List Fr) (m : MT), n = msize m ∧ v4 = .pointer (some (hereA tb fs)) ∧ v5 = aboveV tb fs ∧ Hid (down p fs m = down p [] m0) ∧ Hid (plug fs m = m0) ∧ Hid (Below W1.heap.size W1 wx)))
  case atStart => exact ⟨_, [], m0, rfl, rfl, rfl, rfl, rfl, Below.refl _ _⟩
  case round =>
    have hmz := least_is hrel
    obtain ⟨fs, m, hm, rfl, rfl, hdn, hpl, hbw⟩ := hmz
    have HZ := Go.Lib.hid hm
    clear hm hrel
    have cp0 := (hbw.out.cell (p := ⟨n0, 0, none⟩) (block_lt_of_cell c0)).trans c0
    have cp1 := (hbw.out.cell (p := ⟨n0, 1, none⟩) (block_lt_of_cell c1)).trans c1
    have HWW := Go.Lib.hid (Pfx.Below.tr (N0.out ▸ HB.out) hbw.out)
    have hTr : TreeM wr tb (plug fs m) := by rw [hpl.out]; exact HT0.out.below HWW.out
    have hmt := ((mt_plug fs m wr).1 hTr.2.1).2
    have hcell := here_cell hTr
    have hgm : GoodM m := by
      have h1 : GoodM (plug fs m) := by rw [hpl.out]; exact HG.out
      exact good_plug fs m h1
    obtain ⟨hb, hi, hE⟩ := here_form tb fs
    rw [hE] at hcell HZ ⊢
    have HE := Go.Lib.hid hE
    clear hE hTr
    cases m with
    | nil =>
      unfold ptr at hcell
      have k4 := cell_regrown hcell
      go_wp2_with fail
      refine wp_region_quiet_below (by kernel_rfl) (by kernel_rfl) ?_
      repeat (first | go_big_quiet_step (fail) | quiet_step (fail))
      refine wpQuiet_nil ?_
      intro _ hw'
      obtain ⟨⟨dq, osq⟩, hw''⟩ := hw'
      subst hw''
      have HQ := Go.Lib.hid (below_regrown wr dq osq)
      generalize Go.Sort.grow (redrawn wr dq) osq = w2 at *
      clear k4 hcell cp0 cp1
      go_wp2
      go_ret2
      refine ⟨?_, Pfx.Below.tr HWW.out HQ.out⟩
      rw [← hdn.out, ← HE.out]; rfl
    | node b q x h c s t =>
      obtain ⟨hnd, hms, hmt2⟩ := hmt
      obtain ⟨⟨hgood, hqa⟩, hgs, hgt⟩ := hgm
      obtain ⟨d0, d1, -, -, -, d5, d6⟩ := hnd.cells
      have hlow := hnd.low
      skip
      have HND := Go.Lib.hid (fun (W : World) (hw : Below wr.heap.size wr W) => ((hw.block b hlow).trans hnd : Nd W b q x h c (ptr s) (ptr t)))
      have hlen := good_len hgood
      have HL2 := Go.Lib.hid hlen
      have CC := inRegion (fun W => within_any p.a p.n q.a q.n hp.1 hqa W) wr
      have CV := Go.Lib.hid (fun W => covers_any p.a p.n q.a q.n hp.1 hqa W)
      have CK := Go.Lib.hid (fun (w3 : World) (hn : Nd w3 b q x h c (ptr s) (ptr t)) => kid_any (W := w3) p hn hp HL2.out.1 HL2.out.2)
      unfold pV at CK
      have HS := Go.Lib.hid hms
      have HT := Go.Lib.hid hmt2
      have HGS := Go.Lib.hid hgs
      have HGT := Go.Lib.hid hgt
      have e : withinB p.a p.n q.a q.n = wiP q p := rfl
      have e2 : coversB p.a p.n q.a q.n = covP p q := rfl
      rw [e] at CC
      rw [e2] at CV
      have k0 := cell_regrown d0
      have k1 := cell_regrown d1
      have k2 := cell_regrown cp0
      have k3 := cell_regrown cp1
      have k4 := cell_regrown hcell
      unfold ptr at k4 hcell
      clear hlen e e2 hnd hms hmt2 hgs hgt hgood hlow d5 d6
      cases hc : wiP q p with
      | false =>
        rw [hc] at CC
        have HC := Go.Lib.hid hc
        clear hc
        go_wp2_with fail
        refine wp_region_quiet_below (by kernel_rfl) (by kernel_rfl) ?_
        repeat (first | go_big_quiet_step (exact CC _ _) | quiet_step (exact CC _ _))
        refine wpQuiet_nil ?_
        intro _ hw'
        obtain ⟨⟨dq, osq⟩, hw''⟩ := hw'
        subst hw''
        have HQ := Go.Lib.hid (below_regrown wr dq osq)
        generalize Go.Sort.grow (redrawn wr dq) osq = w2 at *
        clear k0 k1 k2 k3 k4 hcell cp0 cp1 d0 d1
        go_wp2
        go_ret2
        refine ⟨?_, Pfx.Below.tr HWW.out HQ.out⟩
        rw [← hdn.out, down_stop HC.out, ← HE.out]; rfl
      | true =>
        rw [hc] at CC
        have HC := Go.Lib.hid hc
        clear hc CV
        rcases sd_two q p with hsd | hsd
        · rw [hsd, Nat.add_zero] at CK
          have HSD := Go.Lib.hid hsd
          clear hsd
          go_wp2_with fail
          refine wp_region_quiet_below (by kernel_rfl) (by kernel_rfl) ?_
          repeat (first | go_big_quiet_step (exact CC _ _) | quiet_step (exact CC _ _))
          refine wpQuiet_nil ?_
          intro _ hw'
          obtain ⟨⟨dq, osq⟩, hw''⟩ := hw'
          subst hw''
          have HQ := Go.Lib.hid (below_regrown wr dq osq)
          have b0 := (HQ.out.cell (p := ⟨n0, 0, none⟩) (block_lt_of_cell cp0)).trans cp0
          have b1 := (HQ.out.cell (p := ⟨n0, 1, none⟩) (block_lt_of_cell cp1)).trans cp1
          have bh := (HQ.out.cell (p := ⟨hb, hi, none⟩) (block_lt_of_cell hcell)).trans hcell
          generalize Go.Sort.grow (redrawn wr dq) osq = w2 at *
          clear CC k0 k1 k2 k3 k4 d0 d1 cp0 cp1 hcell
          go_wp2_with fail
          have k0 := cell_regrown b0
          have k1 := cell_regrown b1
          have k2 := cell_regrown bh
          have CKR := inReg (W := w2) (fun W' hw => CK.out W' (HND.out _ (HQ.out.trans (hw.mono HQ.out.size))))
          clear b0 b1 bh
          refine wp_region_quiet_below (by kernel_rfl) (by kernel_rfl) ?_
          repeat (first | go_big_quiet_step (exact CKR _ _) | quiet_step (exact CKR _ _))
          refine wpQuiet_nil ?_
          intro _ hw'
          obtain ⟨⟨dq, osq⟩, hw''⟩ := hw'
          subst hw''
          have HQ2 := Go.Lib.hid (below_regrown w2 dq osq)
          generalize Go.Sort.grow (redrawn w2 dq) osq = w4 at *
          go_wp2_with fail
          go_roundw
          all_goals
            have hnew : ∃ (fs2 : List Fr) (m : MT), msize s = msize m ∧ Value.pointer (some ⟨b, 5, none⟩) = .pointer (some (hereA tb fs2)) ∧ Value.pointer (some ⟨hb, hi, none⟩) = aboveV tb fs2 ∧ Hid (down p fs2 m = down p [] m0) ∧ Hid (plug fs2 m = m0) ∧ Hid (Below W1.heap.size W1 w4) :=
              ⟨⟨b, q, x, h, c, false, t⟩ :: fs, s, rfl, rfl, (by rw [← HE.out]; rfl), (show down p _ s = _ from (down_low HC.out HSD.out).symm.trans hdn.out), hpl.out, hbw.out.trans ((HQ.out.trans (HQ2.out.mono HQ.out.size)).mono hbw.out.size)⟩
          case rel => exact ⟨_, hnew⟩
          case measure =>
            refine Nat.lt_of_le_of_lt (least_le hnew) ?_
            have := HZ.out
            unfold ptr at *
            simp only [msize] at this
            omega
        · rw [hsd, show 5 + 1 = 6 from rfl] at CK
          have HSD := Go.Lib.hid hsd
          clear hsd
          go_wp2_with fail
          refine wp_region_quiet_below (by kernel_rfl) (by kernel_rfl) ?_
          repeat (first | go_big_quiet_step (exact CC _ _) | quiet_step (exact CC _ _))
          refine wpQuiet_nil ?_
          intro _ hw'
          obtain ⟨⟨dq, osq⟩, hw''⟩ := hw'
          subst hw''
          have HQ := Go.Lib.hid (below_regrown wr dq osq)
          have b0 := (HQ.out.cell (p := ⟨n0, 0, none⟩) (block_lt_of_cell cp0)).trans cp0
          have b1 := (HQ.out.cell (p := ⟨n0, 1, none⟩) (block_lt_of_cell cp1)).trans cp1
          have bh := (HQ.out.cell (p := ⟨hb, hi, none⟩) (block_lt_of_cell hcell)).trans hcell
          generalize Go.Sort.grow (redrawn wr dq) osq = w2 at *
          clear CC k0 k1 k2 k3 k4 d0 d1 cp0 cp1 hcell
          go_wp2_with fail
          have k0 := cell_regrown b0
          have k1 := cell_regrown b1
          have k2 := cell_regrown bh
          have CKR := inReg (W := w2) (fun W' hw => CK.out W' (HND.out _ (HQ.out.trans (hw.mono HQ.out.size))))
          clear b0 b1 bh
          refine wp_region_quiet_below (by kernel_rfl) (by kernel_rfl) ?_
          repeat (first | go_big_quiet_step (exact CKR _ _) | quiet_step (exact CKR _ _))
          refine wpQuiet_nil ?_
          intro _ hw'
          obtain ⟨⟨dq, osq⟩, hw''⟩ := hw'
          subst hw''
          have HQ2 := Go.Lib.hid (below_regrown w2 dq osq)
          generalize Go.Sort.grow (redrawn w2 dq) osq = w4 at *
          go_wp2_with fail
          go_roundw
          all_goals
            have hnew : ∃ (fs2 : List Fr) (m : MT), msize t = msize m ∧ Value.pointer (some ⟨b, 6, none⟩) = .pointer (some (hereA tb fs2)) ∧ Value.pointer (some ⟨hb, hi, none⟩) = aboveV tb fs2 ∧ Hid (down p fs2 m = down p [] m0) ∧ Hid (plug fs2 m = m0) ∧ Hid (Below W1.heap.size W1 w4) :=
              ⟨⟨b, q, x, h, c, true, s⟩ :: fs, t, rfl, rfl, (by rw [← HE.out]; rfl), (show down p _ t = _ from (down_high HC.out HSD.out).symm.trans hdn.out), hpl.out, hbw.out.trans ((HQ.out.trans (HQ2.out.mono HQ.out.size)).mono hbw.out.size)⟩
          case rel => exact ⟨_, hnew⟩
          case measure =>
            refine Nat.lt_of_le_of_lt (least_le hnew) ?_
            have := HZ.out
            unfold ptr at *
            simp only [msize] at this
            omega
end Go.Proofs.Ytpcahgnibdampaa.Tri
