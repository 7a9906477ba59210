/- The contract of the trie's over: it goes down along a prefix, and calls what it was handed at each node that covers it. -/
import Derived.Test.YtpcahgnibdampaaTriSide
import Derived.Outline
import Derived.Deep.Cut
import Derived.Laws.Tables
import Derived.BigQuiet
import Derived.Deep.RegionHeld3
import Derived.Lib.QuietBelow
namespace Go.Proofs.Ytpcahgnibdampaa.Tri
open Go.RowKit Mem PR Pfx Oct

def kidM (q p : Pf) (s t : MT) : MT := if sd q p = 0 then s else t
/-- The call of what was handed over, at a node. -/
def Visits (k : FuncId) (caps : Array Value) (p : Pf) (n0 : Nat) (R : MT → World → Prop) : Prop :=
  ∀ (b : Nat) (q : Pf) (x : Int) (h : Bool) (c : Int) (s t : MT) (W : World), n0 < W.heap.size → R (.node b q x h c s t) W → covP q p = true →
    Calls Try.prog k (#[.pointer (some ⟨b, 0, none⟩)] ++ caps) W fun e W' => e = .returned (.tuple #[]) ∧ W.heap.size ≤ W'.heap.size ∧ W'.heap[n0]? = W.heap[n0]? ∧ (∃ x' h' c', Nd W' b q x' h' c' (ptr s) (ptr t)) ∧ R (kidM q p s t) W'
/-- The function is there. -/
def Enters (k : FuncId) : Prop := ∀ (args : Array Value) (w : World), (callFunc k args).run Try.prog w = .ok (.enter k args) w
/-- What is asked of what stands while one goes down. -/
structure Goes (R : MT → World → Prop) : Prop where
  keep : ∀ {m : MT} {W W' : World}, R m W → Below W.heap.size W W' → R m W'
  nd : ∀ {b : Nat} {q : Pf} {x : Int} {h : Bool} {c : Int} {s t : MT} {W : World}, R (.node b q x h c s t) W → Nd W b q x h c (ptr s) (ptr t) ∧ goodP q = true ∧ q.a < 4294967296
def Ends (p : Pf) : MT → Prop
  | .nil => True
  | .node _ q _ _ _ _ _ => covP q p = false
set_option maxRecDepth 100000 in
set_option maxHeartbeats 4000000 in
theorem over_any (k : FuncId) (caps : Array Value) (hent : Enters k) (p : Pf) (hp : p.ok) (R : MT → World → Prop) (HR : Goes R) (m0 : MT) (w : World) (hR : R m0 w) (HV : Visits k caps p w.heap.size R) :
    Calls Try.prog 33 #[ptr m0, pV p, .func (.func k) #[] caps] w fun e w' => e = .returned (.tuple #[]) ∧ ∃ m, R m w' ∧ Ends p m := by
  have hb := below_new w (.cells #[.int .u32 (p.a : Int), .int .i64 p.n] 25)
  obtain ⟨c0, c1⟩ := cells_two w (.int .u32 (p.a : Int)) (.int .i64 p.n) 25
  have hR0 := HR.keep hR hb
  have hlt : w.heap.size < (w.alloc (.cells #[.int .u32 (p.a : Int), .int .i64 p.n] 25)).heap.size := by simp
  have hbox : (w.alloc (.cells #[.int .u32 (p.a : Int), .int .i64 p.n] 25)).heap[w.heap.size]? = some (.cells #[.int .u32 (p.a : Int), .int .i64 p.n] 25) := heap_alloc_new _ _
  have GR := Go.Lib.hid HR
  have GV := Go.Lib.hid HV
  clear hR hb HR HV
  unfold pV
  unfold Enters at hent
  go_enter Try.func33, Try.ntmps33
  go_wp2_with fail
  generalize w.alloc (.cells #[.int .u32 (p.a : Int), .int .i64 p.n] 25) = W1 at *
  have HB := Go.Lib.hid hbox
  have HL := Go.Lib.hid hlt
  have HR0 := Go.Lib.hid hR0
  have Rel := Go.Lib.hid (rfl : (0 : Nat) = 0)
  clear Rel hbox hlt hR0 c0 c1
  generalize hn0 : w.heap.size = n0 at *
  clear hn0
  go_loopw [0] (fun v0 wx => ∃ n, ∃ m, n = msize m ∧ v0 = ptr m ∧ Hid (R m wx) ∧ Hid (n0 < wx.heap.size) ∧ Hid (wx.heap[n0]? = some (.cells #[.int .u32 (p.a : Int), .int .i64 p.n] 25)))
    (fun v0 wx => least (fun n => ∃ m, n = msize m ∧ v0 = ptr m ∧ Hid (R m wx) ∧ Hid (n0 < wx.heap.size) ∧ Hid (wx.heap[n0]? = some (.cells #[.int .u32 (p.a : Int), .int .i64 p.n] 25))))
  case atStart => exact ⟨_, m0, rfl, rfl, HR0, HL, HB⟩
  case round =>
    have hmz := least_is hrel
    obtain ⟨m, hm, rfl, hRm, hsz, hbx⟩ := hmz
    have HM := Go.Lib.hid hm
    clear hm hrel
    have cp0 : wr.cell? ⟨n0, 0, none⟩ = some (.int .u32 (p.a : Int)) := cell_at hbx.out rfl
    have cp1 : wr.cell? ⟨n0, 1, none⟩ = some (.int .i64 p.n) := cell_at hbx.out rfl
    cases m with
    | nil =>
      unfold ptr
      go_wp2_with fail
      refine wp_region_quiet_below (by kernel_rfl) (by kernel_rfl) ?_
      repeat (first | go_big_quiet_step (fail) | quiet_step (fail))
      refine wpQuiet_nil ?_
      intro _ hw'
      obtain ⟨⟨dq, osq⟩, hw''⟩ := hw'
      subst hw''
      go_wp2
      refine bodyPost_end (v := .tuple #[]) (by simp [results, Try.results33, go_sem]) rfl ?_
      exact ⟨rfl, .nil, GR.out.keep hRm.out (below_regrown wr dq osq), trivial⟩
    | node b q x h c s t =>
      obtain ⟨hnd, hgood, hqa⟩ := GR.out.nd hRm.out
      obtain ⟨d0, d1, -, -, -, d5, d6⟩ := hnd.cells
      have hlen := good_len hgood
      have CC := inRegion (fun W => covers_any q.a q.n p.a p.n hqa hp.1 W) wr
      have e : coversB q.a q.n p.a p.n = covP q p := rfl
      rw [e] at CC
      cases hc : covP q p with
      | false =>
        rw [hc] at CC
        have HC := Go.Lib.hid hc
        unfold ptr
        have k0 := cell_regrown d0
        have k1 := cell_regrown d1
        have k2 := cell_regrown cp0
        have k3 := cell_regrown cp1
        clear hc e d0 d1 d5 d6 cp0 cp1 hlen
        go_wp2_with fail
        refine wp_region_quiet_below (by kernel_rfl) (by kernel_rfl) ?_
        repeat (first | go_big_quiet_step (exact CC _ _) | quiet_step (exact CC _ _))
        refine wpQuiet_nil ?_
        intro _ hw'
        obtain ⟨⟨dq, osq⟩, hw''⟩ := hw'
        subst hw''
        go_wp2
        refine bodyPost_end (v := .tuple #[]) (by simp [results, Try.results33, go_sem]) rfl ?_
        exact ⟨rfl, _, GR.out.keep hRm.out (below_regrown wr dq osq), HC.out⟩
      | true =>
        rw [hc] at CC
        have HC := Go.Lib.hid hc
        have HND := Go.Lib.hid hnd
        have HG := Go.Lib.hid hgood
        have HL2 := Go.Lib.hid hlen
        unfold ptr
        have k0 := cell_regrown d0
        have k1 := cell_regrown d1
        have k2 := cell_regrown cp0
        have k3 := cell_regrown cp1
        clear hc e d0 d1 d5 d6 cp0 cp1 hlen
        go_wp2_with fail
        refine wp_region_quiet_below (by kernel_rfl) (by kernel_rfl) ?_
        repeat (first | go_big_quiet_step (exact CC _ _) | quiet_step (exact CC _ _))
        refine wpQuiet_nil ?_
        intro _ hw'
        obtain ⟨⟨dq, osq⟩, hw''⟩ := hw'
        subst hw''
        have HQ := below_regrown wr dq osq
        generalize Go.Sort.grow (redrawn wr dq) osq = w2 at *
        have CV := Go.Lib.hid (GV.out b q x h c s t w2 (Nat.lt_of_lt_of_le hsz.out HQ.size) (GR.out.keep hRm.out HQ) HC.out)
        have HQB := Go.Lib.hid ((HQ.block n0 hsz.out).trans hbx.out)
        have HQS := Go.Lib.hid (Nat.lt_of_lt_of_le hsz.out HQ.size)
        have CK := Go.Lib.hid (fun (w3 : World) (x3 : Int) (h3 : Bool) (c3 : Int) (hn : Nd w3 b q x3 h3 c3 (ptr s) (ptr t)) => kid_any (W := w3) p hn hp HL2.out.1 HL2.out.2)
        unfold pV at CK
        rcases sd_two q p with hsd | hsd
        · rw [hsd, Nat.add_zero] at CK
          have HSD := Go.Lib.hid hsd
          clear hsd
          go_wp2_with (first
            | (go_at_call 52; refine (CK.out _ _ _ _ HN3.out).mono ?_; rintro e w4 ⟨rfl, hb4⟩; have HB4 := Go.Lib.hid hb4; have g : w4.cell? ⟨b, 5, none⟩ = some (ptr s) := (hb4.cell (p := ⟨b, 5, none⟩) HN3.out.low).trans (cell_at HN3.out rfl); clear hb4 b0 b1)
            | (refine CV.out.mono ?_; rintro e w3 ⟨rfl, hs3, hb3, ⟨x3, h3, c3, hn3⟩, hr3⟩; have HN3 := Go.Lib.hid hn3; have HR3 := Go.Lib.hid hr3; have HB3 := Go.Lib.hid (hb3.trans HQB.out); have HS3 := Go.Lib.hid (Nat.lt_of_lt_of_le HQS.out hs3); have b0 : w3.cell? ⟨n0, 0, none⟩ = some (.int .u32 (p.a : Int)) := cell_at HB3.out rfl; have b1 : w3.cell? ⟨n0, 1, none⟩ = some (.int .i64 p.n) := cell_at HB3.out rfl; clear hn3 hr3 hb3 hs3 k0 k1 k2 k3))
          go_roundw
          all_goals
            have e0 : kidM q p s t = s := by unfold kidM; rw [HSD.out]; rfl
            have e1 := HR3.out
            rw [e0] at e1
            have hnew : ∃ m, msize s = msize m ∧ ptr s = ptr m ∧ Hid (R m w4) ∧ Hid (n0 < w4.heap.size) ∧ Hid (w4.heap[n0]? = some (.cells #[.int .u32 (p.a : Int), .int .i64 p.n] 25)) :=
              ⟨s, rfl, rfl, GR.out.keep e1 HB4.out, Nat.lt_of_lt_of_le HS3.out HB4.out.size, (HB4.out.block n0 HS3.out).trans HB3.out⟩
          case rel => exact ⟨_, hnew⟩
          case measure =>
            refine Nat.lt_of_le_of_lt (least_le hnew) ?_
            have := HM.out
            unfold ptr at *
            simp only [msize] at this
            omega
        · rw [hsd, show 5 + 1 = 6 from rfl] at CK
          have HSD := Go.Lib.hid hsd
          clear hsd
          go_wp2_with (first
            | (go_at_call 52; refine (CK.out _ _ _ _ HN3.out).mono ?_; rintro e w4 ⟨rfl, hb4⟩; have HB4 := Go.Lib.hid hb4; have g : w4.cell? ⟨b, 6, none⟩ = some (ptr t) := (hb4.cell (p := ⟨b, 6, none⟩) HN3.out.low).trans (cell_at HN3.out rfl); clear hb4 b0 b1)
            | (refine CV.out.mono ?_; rintro e w3 ⟨rfl, hs3, hb3, ⟨x3, h3, c3, hn3⟩, hr3⟩; have HN3 := Go.Lib.hid hn3; have HR3 := Go.Lib.hid hr3; have HB3 := Go.Lib.hid (hb3.trans HQB.out); have HS3 := Go.Lib.hid (Nat.lt_of_lt_of_le HQS.out hs3); have b0 : w3.cell? ⟨n0, 0, none⟩ = some (.int .u32 (p.a : Int)) := cell_at HB3.out rfl; have b1 : w3.cell? ⟨n0, 1, none⟩ = some (.int .i64 p.n) := cell_at HB3.out rfl; clear hn3 hr3 hb3 hs3 k0 k1 k2 k3))
          go_roundw
          all_goals
            have e0 : kidM q p s t = t := by unfold kidM; rw [HSD.out]; rfl
            have e1 := HR3.out
            rw [e0] at e1
            have hnew : ∃ m, msize t = msize m ∧ ptr t = ptr m ∧ Hid (R m w4) ∧ Hid (n0 < w4.heap.size) ∧ Hid (w4.heap[n0]? = some (.cells #[.int .u32 (p.a : Int), .int .i64 p.n] 25)) :=
              ⟨t, rfl, rfl, GR.out.keep e1 HB4.out, Nat.lt_of_lt_of_le HS3.out HB4.out.size, (HB4.out.block n0 HS3.out).trans HB3.out⟩
          case rel => exact ⟨_, hnew⟩
          case measure =>
            refine Nat.lt_of_le_of_lt (least_le hnew) ?_
            have := HM.out
            unfold ptr at *
            simp only [msize] at this
            omega
end Go.Proofs.Ytpcahgnibdampaa.Tri
