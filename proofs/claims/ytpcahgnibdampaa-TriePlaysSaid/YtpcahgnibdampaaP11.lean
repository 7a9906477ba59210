/- The contracts of the trie's side, kid, top, size, New. The contract of the trie's over: it goes down along a prefix, and calls what it was handed at each node that covers it. The contracts of the trie's under and place: both go down along a prefix, and only read. The law TrieNone, out of what is asked of calls with no tree. -/
import Derived.Test.YtpcahgnibdampaaP10
import Derived.Test.YtpcahgnibdampaaP04
import Derived.Outline
import Derived.Deep.Cut
import Derived.Laws.Tables
import Derived.BigQuiet
import Derived.Deep.RegionHeld3
import Derived.Lib.QuietBelow
namespace Go.Proofs.Ytpcahgnibdampaa.Tri
open Go.RowKit Mem PR Pfx Oct
def sd (q p : Pf) : Nat := if q.n = 32 then 0 else bitOf q p
theorem sd_two (q p : Pf) : sd q p = 0 ∨ sd q p = 1 := by
  unfold sd
  split
  · exact .inl rfl
  · exact bit_two q p
theorem inReg {f : FuncId} {args : Array Value} {v : Value} {W : World} (c : ∀ W', Below W.heap.size W W' → Calls Try.prog f args W' (Tells v W')) :
    ∀ d os, Calls Try.prog f args (Go.Sort.grow (redrawn W d) os) fun e w'' => e = .returned v ∧ ∃ p : Regrown, w'' = Go.Sort.grow (redrawn W p.d) p.os :=
  fun d os => Calls.regrown_of (c _ (below_regrown W d os))
theorem bit_sd (q p : Pf) (hp : p.ok) (h0 : 0 ≤ q.n) (h1 : q.n ≤ 32) (W : World) : Calls Try.prog 61 #[.int .u32 p.a, .int .i64 q.n] W (Tells (.int .i64 (sd q p)) W) := by
  obtain ⟨k, hk⟩ := Int.eq_ofNat_of_zero_le h0
  unfold sd
  by_cases h : q.n = 32
  · rw [if_pos h, h]
    exact (bit_out p.a 32 (.inr (by decide)) W).mono (by rintro e w' ⟨rfl, rfl⟩; exact ⟨rfl, Below.refl _ _⟩)
  · rw [if_neg h]
    unfold bitOf
    rw [hk]
    exact (bit_in p.a k hp.1 (by omega) W).mono (by rintro e w' ⟨rfl, rfl⟩; exact ⟨rfl, Below.refl _ _⟩)
set_option maxRecDepth 100000 in
set_option maxHeartbeats 4000000 in
theorem side_any {W : World} {b : Nat} {q : Pf} {x : Int} {h : Bool} {c : Int} {k0 k1 : Value} (p : Pf) (hn : Nd W b q x h c k0 k1) (hp : p.ok) (h0 : 0 ≤ q.n) (h1 : q.n ≤ 32) :
    Calls Try.prog 57 #[.pointer (some ⟨b, 0, none⟩), pV p] W (Tells (.int .i64 (sd q p)) W) := by
  have CB := Go.Lib.hid (bit_sd q p hp h0 h1)
  have hb := below_new W (.cells #[.int .u32 (p.a : Int), .int .i64 p.n] 25)
  obtain ⟨c0, c1⟩ := cells_two W (.int .u32 (p.a : Int)) (.int .i64 p.n) 25
  obtain ⟨-, d1, -⟩ := hn.cells
  have e1 := (hb.cell (p := ⟨b, 1, none⟩) hn.low).trans d1
  have HB := Go.Lib.hid hb
  unfold pV
  clear hn d1 hb
  generalize hs : sd q p = s at *
  clear hs
  generalize q.n = qn at *
  clear h0 h1 hp
  go_enter Try.func57, Try.ntmps57
  go_wp2_with fail
  generalize W.alloc (.cells #[.int .u32 (p.a : Int), .int .i64 p.n] 25) = W1 at *
  have k0 := cell_regrown c0
  have k1 := cell_regrown c1
  have k2 := cell_regrown e1
  have cB := inReg (W := W1) (fun W' _ => CB.out W')
  refine wp_region_quiet_below (by kernel_rfl) (by kernel_rfl) ?_
  repeat (first | go_big_quiet_step (exact cB _ _) | quiet_step (exact cB _ _))
  refine wpQuiet_nil ?_
  intro _ hw'
  obtain ⟨⟨dq, osq⟩, hw''⟩ := hw'
  subst hw''
  go_wp2_with fail
  go_ret
  exact ⟨rfl, Pfx.Below.tr HB.out (below_regrown W1 dq osq)⟩
set_option maxRecDepth 100000 in
set_option maxHeartbeats 4000000 in
theorem kid_any {W : World} {b : Nat} {q : Pf} {x : Int} {h : Bool} {c : Int} {k0 k1 : Value} (p : Pf) (hn : Nd W b q x h c k0 k1) (hp : p.ok) (h0 : 0 ≤ q.n) (h1 : q.n ≤ 32) :
    Calls Try.prog 52 #[.pointer (some ⟨b, 0, none⟩), pV p] W (Tells (.pointer (some ⟨b, 5 + sd q p, none⟩)) W) := by
  have hb := below_new W (.cells #[.int .u32 (p.a : Int), .int .i64 p.n] 25)
  obtain ⟨c0, c1⟩ := cells_two W (.int .u32 (p.a : Int)) (.int .i64 p.n) 25
  have HN := Go.Lib.hid (fun (W' : World) (hb2 : Below (W.alloc (.cells #[.int .u32 (p.a : Int), .int .i64 p.n] 25)).heap.size (W.alloc (.cells #[.int .u32 (p.a : Int), .int .i64 p.n] 25)) W') =>
    side_any (W := W') (b := b) (q := q) (x := x) (h := h) (c := c) (k0 := k0) (k1 := k1) p ((Pfx.Below.tr hb hb2).block b hn.low |>.trans hn) hp h0 h1)
  have HB := Go.Lib.hid hb
  unfold pV at *
  clear hn hb
  have hs := sd_two q p
  generalize sd q p = s at *
  clear h0 h1 hp
  rcases hs with rfl | rfl
  all_goals
    go_enter Try.func52, Try.ntmps52
    go_wp2_with fail
    generalize W.alloc (.cells #[.int .u32 (p.a : Int), .int .i64 p.n] 25) = W1 at *
    have k0 := cell_regrown c0
    have k1 := cell_regrown c1
    have cB := inReg (W := W1) HN.out
    refine wp_region_quiet_below (by kernel_rfl) (by kernel_rfl) ?_
    repeat (first | go_big_quiet_step (exact cB _ _) | quiet_step (exact cB _ _))
    refine wpQuiet_nil ?_
    intro _ hw'
    obtain ⟨⟨dq, osq⟩, hw''⟩ := hw'
    subst hw''
    go_wp2_with fail
    go_ret
    exact ⟨rfl, Pfx.Below.tr HB.out (below_regrown W1 dq osq)⟩
set_option maxRecDepth 100000 in
set_option maxHeartbeats 4000000 in
theorem top_any {W : World} {tb : Nat} {m : MT} (h : TreeM W tb m) : Calls Try.prog 31 #[.pointer (some ⟨tb, 0, none⟩)] W (Tells (ptr m) W) := by
  have c0 : W.cell? ⟨tb, 0, none⟩ = some (ptr m) := cell_at h.1 rfl
  clear h
  go_enter Try.func31, Try.ntmps31
  go_wp2_with fail
  go_ret
  exact ⟨rfl, Below.refl _ _⟩
theorem top_nil (W : World) : Calls Try.prog 31 #[.pointer none] W (Tells (.pointer none) W) := by
  go_enter Try.func31, Try.ntmps31
  go_wp2_with fail
  go_ret
  exact ⟨rfl, Below.refl _ _⟩
def cntV : MT → Int
  | .nil => 0
  | .node _ _ _ _ c _ _ => c
theorem size_any {W : World} {m : MT} (h : Mt W m) : Calls Try.prog 38 #[ptr m] W (Tells (.int .i64 (cntV m)) W) := by
  cases m with
  | nil =>
    unfold ptr cntV
    go_enter Try.func38, Try.ntmps38
    go_wp2_with fail
    go_ret
    exact ⟨rfl, Below.refl _ _⟩
  | node b q x h0 c s t =>
    obtain ⟨-, -, -, -, d4, -⟩ := h.1.cells
    unfold ptr cntV
    clear h
    go_enter Try.func38, Try.ntmps38
    go_wp2_with fail
    go_ret
    exact ⟨rfl, Below.refl _ _⟩
theorem new_any (W : World) : Calls Try.prog 7 #[] W (fun e W' => ∃ b F, e = .returned (.pointer (some ⟨b, 0, none⟩)) ∧ TT W' W.heap.size (.pointer (some ⟨b, 0, none⟩)) .nil F ∧ Below W.heap.size W W') := by
  go_enter Try.func7, Try.ntmps7
  go_wp2_with fail
  go_ret
  refine ⟨W.heap.size, Blks W.heap.size .nil, rfl, ⟨W.heap.size, .nil, rfl, ⟨by rw [heap_alloc_new]; rfl, trivial, fun a => by simp only [cnt]; split <;> omega⟩, rfl, trivial, trivial, fun k => Iff.rfl, fun k hk => ?_⟩, below_new _ _⟩
  rcases hk with rfl | hk
  · exact Nat.le_refl _
  · exact absurd hk (Nat.lt_irrefl 0)
end Go.Proofs.Ytpcahgnibdampaa.Tri
namespace Go.Proofs.Ytpcahgnibdampaa.Tri
open Go.RowKit Mem PR Pfx Oct
def kidM (q p : Pf) (s t : MT) : MT := if sd q p = 0 then s else t
def Visits (k : FuncId) (caps : Array Value) (p : Pf) (n0 : Nat) (R : MT → World → Prop) : Prop :=
  ∀ (b : Nat) (q : Pf) (x : Int) (h : Bool) (c : Int) (s t : MT) (W : World), n0 < W.heap.size → R (.node b q x h c s t) W → covP q p = true →
    Calls Try.prog k (#[.pointer (some ⟨b, 0, none⟩)] ++ caps) W fun e W' => e = .returned (.tuple #[]) ∧ W.heap.size ≤ W'.heap.size ∧ W'.heap[n0]? = W.heap[n0]? ∧ (∃ x' h' c', Nd W' b q x' h' c' (ptr s) (ptr t)) ∧ R (kidM q p s t) W'
def Enters (k : FuncId) : Prop := ∀ (args : Array Value) (w : World), (callFunc k args).run Try.prog w = .ok (.enter k args) w
structure Goes (R : MT → World → Prop) : Prop where
  keep : ∀ {m : MT} {W W' : World}, R m W → Below W.heap.size W W' → R m W'
  nd : ∀ {b : Nat} {q : Pf} {x : Int} {h : Bool} {c : Int} {s t : MT} {W : World}, R (.node b q x h c s t) W → Nd W b q x h c (ptr s) (ptr t) ∧ goodP q = true ∧ q.a < 4294967296
def Ends (p : Pf) : MT → Prop
  | .nil => True
  | .node _ q _ _ _ _ _ => covP q p = false
set_option maxRecDepth 100000 in
set_option maxHeartbeats 4000000 in
theorem over_any (k : FuncId) (caps : Array Value) (hent : Enters k) (p : Pf) (hp : p.ok) (R : MT → World → Prop) (HR : Goes R) (m0 : MT) (w : World) (hR : R m0 w) (HV : Visits k caps p w.heap.size R) :
    Calls Try.prog 33 #[ptr m0, pV p, .func (.func k) #[] caps] w fun e w' => e = .returned (.tuple #[]) ∧ ∃ m, R m w' ∧ Ends p m := by
  have hb := below_new w (.cells #[.int .u32 (p.a : Int), .int .i64 p.n] 25)
  obtain ⟨c0, c1⟩ := cells_two w (.int .u32 (p.a : Int)) (.int .i64 p.n) 25
  have hR0 := HR.keep hR hb
  have hlt : w.heap.size < (w.alloc (.cells #[.int .u32 (p.a : Int), .int .i64 p.n] 25)).heap.size := by simp
  have hbox : (w.alloc (.cells #[.int .u32 (p.a : Int), .int .i64 p.n] 25)).heap[w.heap.size]? = some (.cells #[.int .u32 (p.a : Int), .int .i64 p.n] 25) := heap_alloc_new _ _
  have GR := Go.Lib.hid HR
  have GV := Go.Lib.hid HV
  clear hR hb HR HV
  unfold pV
  unfold Enters at hent
  go_enter Try.func33, Try.ntmps33
  go_wp2_with fail
  generalize w.alloc (.cells #[.int .u32 (p.a : Int), .int .i64 p.n] 25) = W1 at *
  have HB := Go.Lib.hid hbox
  have HL := Go.Lib.hid hlt
  have HR0 := Go.Lib.hid hR0
  have Rel := Go.Lib.hid (rfl : (0 : Nat) = 0)
  clear Rel hbox hlt hR0 c0 c1
  generalize hn0 : w.heap.size = n0 at *
  clear hn0
  go_loopw [0] (fun v0 wx => ∃ n, ∃ m, n = msize m ∧ v0 = ptr m ∧ Hid (R m wx) ∧ Hid (n0 < wx.heap.size) ∧ Hid (wx.heap[n0]? = some (.cells #[.int .u32 (p.a : Int), .int .i64 p.n] 25)))
    (fun v0 wx => least (fun n => ∃ m, n = msize m ∧ v0 = ptr m ∧ Hid (R m wx) ∧ Hid (n0 < wx.heap.size) ∧ Hid (wx.heap[n0]? = some (.cells #[.int .u32 (p.a : Int), .int .i64 p.n] 25))))
  case atStart => exact ⟨_, m0, rfl, rfl, HR0, HL, HB⟩
  case round =>
    have hmz := least_is hrel
    obtain ⟨m, hm, rfl, hRm, hsz, hbx⟩ := hmz
    have HM := Go.Lib.hid hm
    clear hm hrel
    have cp0 : wr.cell? ⟨n0, 0, none⟩ = some (.int .u32 (p.a : Int)) := cell_at hbx.out rfl
    have cp1 : wr.cell? ⟨n0, 1, none⟩ = some (.int .i64 p.n) := cell_at hbx.out rfl
    cases m with
    | nil =>
      unfold ptr
      go_wp2_with fail
      refine wp_region_quiet_below (by kernel_rfl) (by kernel_rfl) ?_
      repeat (first | go_big_quiet_step (fail) | quiet_step (fail))
      refine wpQuiet_nil ?_
      intro _ hw'
      obtain ⟨⟨dq, osq⟩, hw''⟩ := hw'
      subst hw''
      go_wp2
      refine bodyPost_end (v := .tuple #[]) (by simp [results, Try.results33, go_sem]) rfl ?_
      exact ⟨rfl, .nil, GR.out.keep hRm.out (below_regrown wr dq osq), trivial⟩
    | node b q x h c s t =>
      obtain ⟨hnd, hgood, hqa⟩ := GR.out.nd hRm.out
      obtain ⟨d0, d1, -, -, -, d5, d6⟩ := hnd.cells
      have hlen := good_len hgood
      have CC := inRegion (fun W => covers_any q.a q.n p.a p.n hqa hp.1 W) wr
      have e : coversB q.a q.n p.a p.n = covP q p := rfl
      rw [e] at CC
      cases hc : covP q p with
      | false =>
        rw [hc] at CC
        have HC := Go.Lib.hid hc
        unfold ptr
        have k0 := cell_regrown d0
        have k1 := cell_regrown d1
        have k2 := cell_regrown cp0
        have k3 := cell_regrown cp1
        clear hc e d0 d1 d5 d6 cp0 cp1 hlen
        go_wp2_with fail
        refine wp_region_quiet_below (by kernel_rfl) (by kernel_rfl) ?_
        repeat (first | go_big_quiet_step (exact CC _ _) | quiet_step (exact CC _ _))
        refine wpQuiet_nil ?_
        intro _ hw'
        obtain ⟨⟨dq, osq⟩, hw''⟩ := hw'
        subst hw''
        go_wp2
        refine bodyPost_end (v := .tuple #[]) (by simp [results, Try.results33, go_sem]) rfl ?_
        exact ⟨rfl, _, GR.out.keep hRm.out (below_regrown wr dq osq), HC.out⟩
      | true =>
        rw [hc] at CC
        have HC := Go.Lib.hid hc
        have HND := Go.Lib.hid hnd
        have HG := Go.Lib.hid hgood
        have HL2 := Go.Lib.hid hlen
        unfold ptr
        have k0 := cell_regrown d0
        have k1 := cell_regrown d1
        have k2 := cell_regrown cp0
        have k3 := cell_regrown cp1
        clear hc e d0 d1 d5 d6 cp0 cp1 hlen
        go_wp2_with fail
        refine wp_region_quiet_below (by kernel_rfl) (by kernel_rfl) ?_
        repeat (first | go_big_quiet_step (exact CC _ _) | quiet_step (exact CC _ _))
        refine wpQuiet_nil ?_
        intro _ hw'
        obtain ⟨⟨dq, osq⟩, hw''⟩ := hw'
        subst hw''
        have HQ := below_regrown wr dq osq
        generalize Go.Sort.grow (redrawn wr dq) osq = w2 at *
        have CV := Go.Lib.hid (GV.out b q x h c s t w2 (Nat.lt_of_lt_of_le hsz.out HQ.size) (GR.out.keep hRm.out HQ) HC.out)
        have HQB := Go.Lib.hid ((HQ.block n0 hsz.out).trans hbx.out)
        have HQS := Go.Lib.hid (Nat.lt_of_lt_of_le hsz.out HQ.size)
        have CK := Go.Lib.hid (fun (w3 : World) (x3 : Int) (h3 : Bool) (c3 : Int) (hn : Nd w3 b q x3 h3 c3 (ptr s) (ptr t)) => kid_any (W := w3) p hn hp HL2.out.1 HL2.out.2)
        unfold pV at CK
        rcases sd_two q p with hsd | hsd
        · rw [hsd, Nat.add_zero] at CK
          have HSD := Go.Lib.hid hsd
          clear hsd
          go_wp2_with (first
            | (go_at_call 52; refine (CK.out _ _ _ _ HN3.out).mono ?_; rintro e w4 ⟨rfl, hb4⟩; have HB4 := Go.Lib.hid hb4; have g : w4.cell? ⟨b, 5, none⟩ = some (ptr s) := (hb4.cell (p := ⟨b, 5, none⟩) HN3.out.low).trans (cell_at HN3.out rfl); clear hb4 b0 b1)
            | (refine CV.out.mono ?_; rintro e w3 ⟨rfl, hs3, hb3, ⟨x3, h3, c3, hn3⟩, hr3⟩; have HN3 := Go.Lib.hid hn3; have HR3 := Go.Lib.hid hr3; have HB3 := Go.Lib.hid (hb3.trans HQB.out); have HS3 := Go.Lib.hid (Nat.lt_of_lt_of_le HQS.out hs3); have b0 : w3.cell? ⟨n0, 0, none⟩ = some (.int .u32 (p.a : Int)) := cell_at HB3.out rfl; have b1 : w3.cell? ⟨n0, 1, none⟩ = some (.int .i64 p.n) := cell_at HB3.out rfl; clear hn3 hr3 hb3 hs3 k0 k1 k2 k3))
          go_roundw
          all_goals
            have e0 : kidM q p s t = s := by unfold kidM; rw [HSD.out]; rfl
            have e1 := HR3.out
            rw [e0] at e1
            have hnew : ∃ m, msize s = msize m ∧ ptr s = ptr m ∧ Hid (R m w4) ∧ Hid (n0 < w4.heap.size) ∧ Hid (w4.heap[n0]? = some (.cells #[.int .u32 (p.a : Int), .int .i64 p.n] 25)) :=
              ⟨s, rfl, rfl, GR.out.keep e1 HB4.out, Nat.lt_of_lt_of_le HS3.out HB4.out.size, (HB4.out.block n0 HS3.out).trans HB3.out⟩
          case rel => exact ⟨_, hnew⟩
          case measure =>
            refine Nat.lt_of_le_of_lt (least_le hnew) ?_
            have := HM.out
            unfold ptr at *
            simp only [msize] at this
            omega
        · rw [hsd, show 5 + 1 = 6 from rfl] at CK
          have HSD := Go.Lib.hid hsd
          clear hsd
          go_wp2_with (first
            | (go_at_call 52; refine (CK.out _ _ _ _ HN3.out).mono ?_; rintro e w4 ⟨rfl, hb4⟩; have HB4 := Go.Lib.hid hb4; have g : w4.cell? ⟨b, 6, none⟩ = some (ptr t) := (hb4.cell (p := ⟨b, 6, none⟩) HN3.out.low).trans (cell_at HN3.out rfl); clear hb4 b0 b1)
            | (refine CV.out.mono ?_; rintro e w3 ⟨rfl, hs3, hb3, ⟨x3, h3, c3, hn3⟩, hr3⟩; have HN3 := Go.Lib.hid hn3; have HR3 := Go.Lib.hid hr3; have HB3 := Go.Lib.hid (hb3.trans HQB.out); have HS3 := Go.Lib.hid (Nat.lt_of_lt_of_le HQS.out hs3); have b0 : w3.cell? ⟨n0, 0, none⟩ = some (.int .u32 (p.a : Int)) := cell_at HB3.out rfl; have b1 : w3.cell? ⟨n0, 1, none⟩ = some (.int .i64 p.n) := cell_at HB3.out rfl; clear hn3 hr3 hb3 hs3 k0 k1 k2 k3))
          go_roundw
          all_goals
            have e0 : kidM q p s t = t := by unfold kidM; rw [HSD.out]; rfl
            have e1 := HR3.out
            rw [e0] at e1
            have hnew : ∃ m, msize t = msize m ∧ ptr t = ptr m ∧ Hid (R m w4) ∧ Hid (n0 < w4.heap.size) ∧ Hid (w4.heap[n0]? = some (.cells #[.int .u32 (p.a : Int), .int .i64 p.n] 25)) :=
              ⟨t, rfl, rfl, GR.out.keep e1 HB4.out, Nat.lt_of_lt_of_le HS3.out HB4.out.size, (HB4.out.block n0 HS3.out).trans HB3.out⟩
          case rel => exact ⟨_, hnew⟩
          case measure =>
            refine Nat.lt_of_le_of_lt (least_le hnew) ?_
            have := HM.out
            unfold ptr at *
            simp only [msize] at this
            omega
end Go.Proofs.Ytpcahgnibdampaa.Tri
namespace Go.Proofs.Ytpcahgnibdampaa.Tri
open Go.RowKit Mem PR Pfx Oct
def GoodM : MT → Prop
  | .nil => True
  | .node _ q _ _ _ s t => (goodP q = true ∧ q.a < 4294967296) ∧ GoodM s ∧ GoodM t
theorem good_of_wf : ∀ (m : MT), WF (tr m) → GoodM m
  | .nil, _ => trivial
  | .node _ _ _ _ _ s t, h => ⟨h.1, good_of_wf s h.2.2.2.2.1, good_of_wf t h.2.2.2.2.2⟩
def wiP (q p : Pf) : Bool := withinB p.a p.n q.a q.n
theorem wi_is (q p : Pf) : wiP q p = (!decide (p = q) && covP q p) := by
  unfold wiP withinB covP
  congr 2
  exact decide_eq_decide.2 ⟨fun h => pf_ext h.1 h.2, fun h => by rw [h]; exact ⟨rfl, rfl⟩⟩
def subM : MT → Pf → MT
  | .nil, _ => .nil
  | .node b q x h c s t, p => if wiP q p then (if sd q p = 0 then subM s p else subM t p) else if covP p q then .node b q x h c s t else .nil
theorem subM_low {b : Nat} {q p : Pf} {x : Int} {h : Bool} {c : Int} {s t : MT} (h1 : wiP q p = true) (h2 : sd q p = 0) : subM (.node b q x h c s t) p = subM s p := by rw [subM, if_pos h1, if_pos h2]
theorem subM_high {b : Nat} {q p : Pf} {x : Int} {h : Bool} {c : Int} {s t : MT} (h1 : wiP q p = true) (h2 : sd q p = 1) : subM (.node b q x h c s t) p = subM t p := by rw [subM, if_pos h1, if_neg (by rw [h2]; decide)]
def down (p : Pf) : List Fr → MT → List Fr × MT
  | fs, .nil => (fs, .nil)
  | fs, .node b q x h c s t => if wiP q p then (if sd q p = 0 then down p (⟨b, q, x, h, c, false, t⟩ :: fs) s else down p (⟨b, q, x, h, c, true, s⟩ :: fs) t) else (fs, .node b q x h c s t)
set_option maxRecDepth 100000 in
set_option maxHeartbeats 4000000 in
theorem under_any (p : Pf) (hp : p.ok) (m0 : MT) (w : World) (hm : Mt w m0) (hg : GoodM m0) : Calls Try.prog 30 #[ptr m0, pV p] w (Tells (ptr (subM m0 p)) w) := by
  have hb := below_new w (.cells #[.int .u32 (p.a : Int), .int .i64 p.n] 25)
  obtain ⟨c0, c1⟩ := cells_two w (.int .u32 (p.a : Int)) (.int .i64 p.n) 25
  have HM := Go.Lib.hid hm
  have HG := Go.Lib.hid hg
  have HB := Go.Lib.hid hb
  clear hm hg hb
  unfold pV
  go_enter Try.func30, Try.ntmps30
  go_wp2_with fail
  generalize hW1 : w.alloc (.cells #[.int .u32 (p.a : Int), .int .i64 p.n] 25) = W1 at *
  clear hW1
  generalize hn0 : w.heap.size = n0 at *
  have N0 := Go.Lib.hid hn0
  clear hn0
  go_loopw [0] (fun v0 wx => ∃ n, ∃ m, n = msize m ∧ v0 = ptr m ∧ Hid (subM m p = subM m0 p) ∧ Hid (Mt w m) ∧ Hid (GoodM m) ∧ Hid (Below W1.heap.size W1 wx))
    (fun v0 wx => least (fun n => ∃ m, n = msize m ∧ v0 = ptr m ∧ Hid (subM m p = subM m0 p) ∧ Hid (Mt w m) ∧ Hid (GoodM m) ∧ Hid (Below W1.heap.size W1 wx)))
  case atStart => exact ⟨_, m0, rfl, rfl, rfl, HM, HG, Below.refl _ _⟩
  case round =>
    have hmz := least_is hrel
    obtain ⟨m, hm, rfl, hsub, hmt, hgm, hbw⟩ := hmz
    have HZ := Go.Lib.hid hm
    clear hm hrel
    have cp0 := (hbw.out.cell (p := ⟨n0, 0, none⟩) (block_lt_of_cell c0)).trans c0
    have cp1 := (hbw.out.cell (p := ⟨n0, 1, none⟩) (block_lt_of_cell c1)).trans c1
    have HWW := Go.Lib.hid (Pfx.Below.tr (N0.out ▸ HB.out) hbw.out)
    cases m with
    | nil =>
      unfold ptr
      go_wp2_with fail
      refine wp_region_quiet_below (by kernel_rfl) (by kernel_rfl) ?_
      repeat (first | go_big_quiet_step (fail) | quiet_step (fail))
      refine wpQuiet_nil ?_
      intro _ hw'
      obtain ⟨⟨dq, osq⟩, hw''⟩ := hw'
      subst hw''
      have HQ := below_regrown wr dq osq
      generalize Go.Sort.grow (redrawn wr dq) osq = w2 at *
      go_wp2_with fail
      refine wp_region_quiet_below (by kernel_rfl) (by kernel_rfl) ?_
      repeat (first | go_big_quiet_step (fail) | quiet_step (fail))
      refine wpQuiet_nil ?_
      intro _ hw'
      obtain ⟨⟨dq, osq⟩, hw''⟩ := hw'
      subst hw''
      go_wp2
      go_ret
      exact ⟨by rw [← hsub.out]; rfl, Pfx.Below.tr HWW.out (Pfx.Below.tr HQ (below_regrown w2 dq osq))⟩
    | node b q x h c s t =>
      obtain ⟨hnd, hms, hmt2⟩ := hmt.out
      obtain ⟨⟨hgood, hqa⟩, hgs, hgt⟩ := hgm.out
      obtain ⟨d0, d1, -, -, -, d5, d6⟩ := hnd.cells
      have hlow := hnd.low
      replace d0 := (HWW.out.cell (p := ⟨b, 0, none⟩) hlow).trans d0
      replace d1 := (HWW.out.cell (p := ⟨b, 1, none⟩) hlow).trans d1
      have HND := Go.Lib.hid (fun (W : World) (hw : Below wr.heap.size wr W) => (((Pfx.Below.tr HWW.out hw).block b hlow).trans hnd : Nd W b q x h c (ptr s) (ptr t)))
      have hlen := good_len hgood
      have HL2 := Go.Lib.hid hlen
      have CC := inRegion (fun W => within_any p.a p.n q.a q.n hp.1 hqa W) wr
      have CV := Go.Lib.hid (fun W => covers_any p.a p.n q.a q.n hp.1 hqa W)
      have CK := Go.Lib.hid (fun (w3 : World) (hn : Nd w3 b q x h c (ptr s) (ptr t)) => kid_any (W := w3) p hn hp HL2.out.1 HL2.out.2)
      unfold pV at CK
      have HS := Go.Lib.hid hms
      have HT := Go.Lib.hid hmt2
      have HGS := Go.Lib.hid hgs
      have HGT := Go.Lib.hid hgt
      have e : withinB p.a p.n q.a q.n = wiP q p := rfl
      have e2 : coversB p.a p.n q.a q.n = covP p q := rfl
      rw [e] at CC
      rw [e2] at CV
      have k0 := cell_regrown d0
      have k1 := cell_regrown d1
      have k2 := cell_regrown cp0
      have k3 := cell_regrown cp1
      unfold ptr
      clear hlen e e2 hnd hms hmt2 hgs hgt hgood hlow d5 d6
      cases hc : wiP q p with
      | false =>
        rw [hc] at CC
        have HC := Go.Lib.hid hc
        clear hc
        cases hv : covP p q with
        | false =>
          rw [hv] at CV
          have HV := Go.Lib.hid hv
          clear hv
          go_wp2_with fail
          refine wp_region_quiet_below (by kernel_rfl) (by kernel_rfl) ?_
          repeat (first | go_big_quiet_step (exact CC _ _) | quiet_step (exact CC _ _))
          refine wpQuiet_nil ?_
          intro _ hw'
          obtain ⟨⟨dq, osq⟩, hw''⟩ := hw'
          subst hw''
          have HQ := below_regrown wr dq osq
          have k4 := (HQ.cell (p := ⟨b, 0, none⟩) (block_lt_of_cell d0)).trans d0
          have k5 := (HQ.cell (p := ⟨b, 1, none⟩) (block_lt_of_cell d1)).trans d1
          have k6 := (HQ.cell (p := ⟨n0, 0, none⟩) (block_lt_of_cell cp0)).trans cp0
          have k7 := (HQ.cell (p := ⟨n0, 1, none⟩) (block_lt_of_cell cp1)).trans cp1
          have HQ2 := Go.Lib.hid HQ
          generalize Go.Sort.grow (redrawn wr dq) osq = w2 at *
          replace k0 := cell_regrown k4
          replace k1 := cell_regrown k5
          replace k2 := cell_regrown k6
          replace k3 := cell_regrown k7
          have CC2 := inRegion CV.out w2
          clear CC k4 k5 k6 k7 d0 d1 cp0 cp1 HQ
          go_wp2_with fail
          refine wp_region_quiet_below (by kernel_rfl) (by kernel_rfl) ?_
          repeat (first | go_big_quiet_step (exact CC2 _ _) | quiet_step (exact CC2 _ _))
          refine wpQuiet_nil ?_
          intro _ hw'
          obtain ⟨⟨dq, osq⟩, hw''⟩ := hw'
          subst hw''
          go_wp2
          go_ret
          refine ⟨?_, Pfx.Below.tr HWW.out (Pfx.Below.tr HQ2.out (below_regrown w2 dq osq))⟩
          rw [← hsub.out]; unfold subM; rw [HC.out, HV.out]; rfl
        | true =>
          rw [hv] at CV
          have HV := Go.Lib.hid hv
          clear hv
          go_wp2_with fail
          refine wp_region_quiet_below (by kernel_rfl) (by kernel_rfl) ?_
          repeat (first | go_big_quiet_step (exact CC _ _) | quiet_step (exact CC _ _))
          refine wpQuiet_nil ?_
          intro _ hw'
          obtain ⟨⟨dq, osq⟩, hw''⟩ := hw'
          subst hw''
          have HQ := below_regrown wr dq osq
          have k4 := (HQ.cell (p := ⟨b, 0, none⟩) (block_lt_of_cell d0)).trans d0
          have k5 := (HQ.cell (p := ⟨b, 1, none⟩) (block_lt_of_cell d1)).trans d1
          have k6 := (HQ.cell (p := ⟨n0, 0, none⟩) (block_lt_of_cell cp0)).trans cp0
          have k7 := (HQ.cell (p := ⟨n0, 1, none⟩) (block_lt_of_cell cp1)).trans cp1
          have HQ2 := Go.Lib.hid HQ
          generalize Go.Sort.grow (redrawn wr dq) osq = w2 at *
          replace k0 := cell_regrown k4
          replace k1 := cell_regrown k5
          replace k2 := cell_regrown k6
          replace k3 := cell_regrown k7
          have CC2 := inRegion CV.out w2
          clear CC k4 k5 k6 k7 d0 d1 cp0 cp1 HQ
          go_wp2_with fail
          refine wp_region_quiet_below (by kernel_rfl) (by kernel_rfl) ?_
          repeat (first | go_big_quiet_step (exact CC2 _ _) | quiet_step (exact CC2 _ _))
          refine wpQuiet_nil ?_
          intro _ hw'
          obtain ⟨⟨dq, osq⟩, hw''⟩ := hw'
          subst hw''
          go_wp2
          go_ret
          refine ⟨?_, Pfx.Below.tr HWW.out (Pfx.Below.tr HQ2.out (below_regrown w2 dq osq))⟩
          rw [← hsub.out]; unfold subM; rw [HC.out, HV.out]; rfl
      | true =>
        rw [hc] at CC
        have HC := Go.Lib.hid hc
        clear hc CV
        rcases sd_two q p with hsd | hsd
        · rw [hsd, Nat.add_zero] at CK
          have HSD := Go.Lib.hid hsd
          clear hsd
          go_wp2_with fail
          refine wp_region_quiet_below (by kernel_rfl) (by kernel_rfl) ?_
          repeat (first | go_big_quiet_step (exact CC _ _) | quiet_step (exact CC _ _))
          refine wpQuiet_nil ?_
          intro _ hw'
          obtain ⟨⟨dq, osq⟩, hw''⟩ := hw'
          subst hw''
          have HQ := Go.Lib.hid (below_regrown wr dq osq)
          have b0 := (HQ.out.cell (p := ⟨n0, 0, none⟩) (block_lt_of_cell cp0)).trans cp0
          have b1 := (HQ.out.cell (p := ⟨n0, 1, none⟩) (block_lt_of_cell cp1)).trans cp1
          generalize Go.Sort.grow (redrawn wr dq) osq = w2 at *
          clear CC k0 k1 k2 k3 d0 d1 cp0 cp1
          go_wp2_with (go_at_call 52; refine (CK.out _ (HND.out _ HQ.out)).mono ?_; rintro e w4 ⟨rfl, hb4⟩; have HB4 := Go.Lib.hid hb4; have g : w4.cell? ⟨b, 5, none⟩ = some (ptr s) := cell_at (HND.out _ (HQ.out.trans (hb4.mono HQ.out.size))) rfl; clear hb4 b0 b1)
          go_roundw
          all_goals
            have hnew : ∃ m, msize s = msize m ∧ ptr s = ptr m ∧ Hid (subM m p = subM m0 p) ∧ Hid (Mt w m) ∧ Hid (GoodM m) ∧ Hid (Below W1.heap.size W1 w4) :=
              ⟨s, rfl, rfl, (show subM s p = subM m0 p from (subM_low HC.out HSD.out).symm.trans hsub.out), HS.out, HGS.out, hbw.out.trans ((HQ.out.trans (HB4.out.mono HQ.out.size)).mono hbw.out.size)⟩
          case rel => exact ⟨_, hnew⟩
          case measure =>
            refine Nat.lt_of_le_of_lt (least_le hnew) ?_
            have := HZ.out
            unfold ptr at *
            simp only [msize] at this
            omega
        · rw [hsd, show 5 + 1 = 6 from rfl] at CK
          have HSD := Go.Lib.hid hsd
          clear hsd
          go_wp2_with fail
          refine wp_region_quiet_below (by kernel_rfl) (by kernel_rfl) ?_
          repeat (first | go_big_quiet_step (exact CC _ _) | quiet_step (exact CC _ _))
          refine wpQuiet_nil ?_
          intro _ hw'
          obtain ⟨⟨dq, osq⟩, hw''⟩ := hw'
          subst hw''
          have HQ := Go.Lib.hid (below_regrown wr dq osq)
          have b0 := (HQ.out.cell (p := ⟨n0, 0, none⟩) (block_lt_of_cell cp0)).trans cp0
          have b1 := (HQ.out.cell (p := ⟨n0, 1, none⟩) (block_lt_of_cell cp1)).trans cp1
          generalize Go.Sort.grow (redrawn wr dq) osq = w2 at *
          clear CC k0 k1 k2 k3 d0 d1 cp0 cp1
          go_wp2_with (go_at_call 52; refine (CK.out _ (HND.out _ HQ.out)).mono ?_; rintro e w4 ⟨rfl, hb4⟩; have HB4 := Go.Lib.hid hb4; have g : w4.cell? ⟨b, 6, none⟩ = some (ptr t) := cell_at (HND.out _ (HQ.out.trans (hb4.mono HQ.out.size))) rfl; clear hb4 b0 b1)
          go_roundw
          all_goals
            have hnew : ∃ m, msize t = msize m ∧ ptr t = ptr m ∧ Hid (subM m p = subM m0 p) ∧ Hid (Mt w m) ∧ Hid (GoodM m) ∧ Hid (Below W1.heap.size W1 w4) :=
              ⟨t, rfl, rfl, (show subM t p = subM m0 p from (subM_high HC.out HSD.out).symm.trans hsub.out), HT.out, HGT.out, hbw.out.trans ((HQ.out.trans (HB4.out.mono HQ.out.size)).mono hbw.out.size)⟩
          case rel => exact ⟨_, hnew⟩
          case measure =>
            refine Nat.lt_of_le_of_lt (least_le hnew) ?_
            have := HZ.out
            unfold ptr at *
            simp only [msize] at this
            omega
theorem down_low {b : Nat} {q p : Pf} {x : Int} {h : Bool} {c : Int} {s t : MT} {fs : List Fr} (h1 : wiP q p = true) (h2 : sd q p = 0) : down p fs (.node b q x h c s t) = down p (⟨b, q, x, h, c, false, t⟩ :: fs) s := by rw [down, if_pos h1, if_pos h2]
theorem down_high {b : Nat} {q p : Pf} {x : Int} {h : Bool} {c : Int} {s t : MT} {fs : List Fr} (h1 : wiP q p = true) (h2 : sd q p = 1) : down p fs (.node b q x h c s t) = down p (⟨b, q, x, h, c, true, s⟩ :: fs) t := by rw [down, if_pos h1, if_neg (by rw [h2]; decide)]
theorem down_stop {b : Nat} {q p : Pf} {x : Int} {h : Bool} {c : Int} {s t : MT} {fs : List Fr} (h1 : wiP q p = false) : down p fs (.node b q x h c s t) = (fs, .node b q x h c s t) := by rw [down, if_neg (by rw [h1]; decide)]
def aboveV (tb : Nat) : List Fr → Value
  | [] => .pointer none
  | _ :: fs => .pointer (some (hereA tb fs))
theorem good_put (f : Fr) (m : MT) (h : GoodM (f.put m)) : GoodM m := by
  unfold Fr.put at h
  split at h
  · exact h.2.2
  · exact h.2.1
theorem good_plug : ∀ (fs : List Fr) (m : MT), GoodM (plug fs m) → GoodM m
  | [], _, h => h
  | f :: fs, m, h => good_put f m (good_plug fs (f.put m) h)
theorem here_form (tb : Nat) (fs : List Fr) : ∃ b i, hereA tb fs = ⟨b, i, none⟩ := by
  cases fs with
  | nil => exact ⟨_, _, rfl⟩
  | cons f fs => exact ⟨_, _, rfl⟩
set_option maxRecDepth 100000 in
set_option maxHeartbeats 4000000 in
theorem place_any (p : Pf) (hp : p.ok) (tb : Nat) (m0 : MT) (w : World) (hT : TreeM w tb m0) (hg : GoodM m0) :
    Calls Try.prog 43 #[.pointer (some ⟨tb, 0, none⟩), pV p] w (Tells (.tuple #[.pointer (some (hereA tb (down p [] m0).1)), aboveV tb (down p [] m0).1]) w) := by
  have hb := below_new w (.cells #[.int .u32 (p.a : Int), .int .i64 p.n] 25)
  obtain ⟨c0, c1⟩ := cells_two w (.int .u32 (p.a : Int)) (.int .i64 p.n) 25
  have HT0 := Go.Lib.hid hT
  have HG := Go.Lib.hid hg
  have HB := Go.Lib.hid hb
  clear hT hg hb
  unfold pV
  go_enter Try.func43, Try.ntmps43
  go_wp2_with fail
  generalize hW1 : w.alloc (.cells #[.int .u32 (p.a : Int), .int .i64 p.n] 25) = W1 at *
  clear hW1
  generalize hn0 : w.heap.size = n0 at *
  have N0 := Go.Lib.hid hn0
  clear hn0
  go_loopw [4, 5] (fun v4 v5 wx => ∃ n, ∃ (fs : List Fr) (m : MT), n = msize m ∧ v4 = .pointer (some (hereA tb fs)) ∧ v5 = aboveV tb fs ∧ Hid (down p fs m = down p [] m0) ∧ Hid (plug fs m = m0) ∧ Hid (Below W1.heap.size W1 wx))
    (fun v4 v5 wx => least (fun n => ∃ (fs : List Fr) (m : MT), n = msize m ∧ v4 = .pointer (some (hereA tb fs)) ∧ v5 = aboveV tb fs ∧ Hid (down p fs m = down p [] m0) ∧ Hid (plug fs m = m0) ∧ Hid (Below W1.heap.size W1 wx)))
  case atStart => exact ⟨_, [], m0, rfl, rfl, rfl, rfl, rfl, Below.refl _ _⟩
  case round =>
    have hmz := least_is hrel
    obtain ⟨fs, m, hm, rfl, rfl, hdn, hpl, hbw⟩ := hmz
    have HZ := Go.Lib.hid hm
    clear hm hrel
    have cp0 := (hbw.out.cell (p := ⟨n0, 0, none⟩) (block_lt_of_cell c0)).trans c0
    have cp1 := (hbw.out.cell (p := ⟨n0, 1, none⟩) (block_lt_of_cell c1)).trans c1
    have HWW := Go.Lib.hid (Pfx.Below.tr (N0.out ▸ HB.out) hbw.out)
    have hTr : TreeM wr tb (plug fs m) := by rw [hpl.out]; exact HT0.out.below HWW.out
    have hmt := ((mt_plug fs m wr).1 hTr.2.1).2
    have hcell := here_cell hTr
    have hgm : GoodM m := by
      have h1 : GoodM (plug fs m) := by rw [hpl.out]; exact HG.out
      exact good_plug fs m h1
    obtain ⟨hb, hi, hE⟩ := here_form tb fs
    rw [hE] at hcell HZ ⊢
    have HE := Go.Lib.hid hE
    clear hE hTr
    cases m with
    | nil =>
      unfold ptr at hcell
      have k4 := cell_regrown hcell
      go_wp2_with fail
      refine wp_region_quiet_below (by kernel_rfl) (by kernel_rfl) ?_
      repeat (first | go_big_quiet_step (fail) | quiet_step (fail))
      refine wpQuiet_nil ?_
      intro _ hw'
      obtain ⟨⟨dq, osq⟩, hw''⟩ := hw'
      subst hw''
      have HQ := Go.Lib.hid (below_regrown wr dq osq)
      generalize Go.Sort.grow (redrawn wr dq) osq = w2 at *
      clear k4 hcell cp0 cp1
      go_wp2
      go_ret2
      refine ⟨?_, Pfx.Below.tr HWW.out HQ.out⟩
      rw [← hdn.out, ← HE.out]; rfl
    | node b q x h c s t =>
      obtain ⟨hnd, hms, hmt2⟩ := hmt
      obtain ⟨⟨hgood, hqa⟩, hgs, hgt⟩ := hgm
      obtain ⟨d0, d1, -, -, -, d5, d6⟩ := hnd.cells
      have hlow := hnd.low
      skip
      have HND := Go.Lib.hid (fun (W : World) (hw : Below wr.heap.size wr W) => ((hw.block b hlow).trans hnd : Nd W b q x h c (ptr s) (ptr t)))
      have hlen := good_len hgood
      have HL2 := Go.Lib.hid hlen
      have CC := inRegion (fun W => within_any p.a p.n q.a q.n hp.1 hqa W) wr
      have CV := Go.Lib.hid (fun W => covers_any p.a p.n q.a q.n hp.1 hqa W)
      have CK := Go.Lib.hid (fun (w3 : World) (hn : Nd w3 b q x h c (ptr s) (ptr t)) => kid_any (W := w3) p hn hp HL2.out.1 HL2.out.2)
      unfold pV at CK
      have HS := Go.Lib.hid hms
      have HT := Go.Lib.hid hmt2
      have HGS := Go.Lib.hid hgs
      have HGT := Go.Lib.hid hgt
      have e : withinB p.a p.n q.a q.n = wiP q p := rfl
      have e2 : coversB p.a p.n q.a q.n = covP p q := rfl
      rw [e] at CC
      rw [e2] at CV
      have k0 := cell_regrown d0
      have k1 := cell_regrown d1
      have k2 := cell_regrown cp0
      have k3 := cell_regrown cp1
      have k4 := cell_regrown hcell
      unfold ptr at k4 hcell
      clear hlen e e2 hnd hms hmt2 hgs hgt hgood hlow d5 d6
      cases hc : wiP q p with
      | false =>
        rw [hc] at CC
        have HC := Go.Lib.hid hc
        clear hc
        go_wp2_with fail
        refine wp_region_quiet_below (by kernel_rfl) (by kernel_rfl) ?_
        repeat (first | go_big_quiet_step (exact CC _ _) | quiet_step (exact CC _ _))
        refine wpQuiet_nil ?_
        intro _ hw'
        obtain ⟨⟨dq, osq⟩, hw''⟩ := hw'
        subst hw''
        have HQ := Go.Lib.hid (below_regrown wr dq osq)
        generalize Go.Sort.grow (redrawn wr dq) osq = w2 at *
        clear k0 k1 k2 k3 k4 hcell cp0 cp1 d0 d1
        go_wp2
        go_ret2
        refine ⟨?_, Pfx.Below.tr HWW.out HQ.out⟩
        rw [← hdn.out, down_stop HC.out, ← HE.out]; rfl
      | true =>
        rw [hc] at CC
        have HC := Go.Lib.hid hc
        clear hc CV
        rcases sd_two q p with hsd | hsd
        · rw [hsd, Nat.add_zero] at CK
          have HSD := Go.Lib.hid hsd
          clear hsd
          go_wp2_with fail
          refine wp_region_quiet_below (by kernel_rfl) (by kernel_rfl) ?_
          repeat (first | go_big_quiet_step (exact CC _ _) | quiet_step (exact CC _ _))
          refine wpQuiet_nil ?_
          intro _ hw'
          obtain ⟨⟨dq, osq⟩, hw''⟩ := hw'
          subst hw''
          have HQ := Go.Lib.hid (below_regrown wr dq osq)
          have b0 := (HQ.out.cell (p := ⟨n0, 0, none⟩) (block_lt_of_cell cp0)).trans cp0
          have b1 := (HQ.out.cell (p := ⟨n0, 1, none⟩) (block_lt_of_cell cp1)).trans cp1
          have bh := (HQ.out.cell (p := ⟨hb, hi, none⟩) (block_lt_of_cell hcell)).trans hcell
          generalize Go.Sort.grow (redrawn wr dq) osq = w2 at *
          clear CC k0 k1 k2 k3 k4 d0 d1 cp0 cp1 hcell
          go_wp2_with fail
          have k0 := cell_regrown b0
          have k1 := cell_regrown b1
          have k2 := cell_regrown bh
          have CKR := inReg (W := w2) (fun W' hw => CK.out W' (HND.out _ (HQ.out.trans (hw.mono HQ.out.size))))
          clear b0 b1 bh
          refine wp_region_quiet_below (by kernel_rfl) (by kernel_rfl) ?_
          repeat (first | go_big_quiet_step (exact CKR _ _) | quiet_step (exact CKR _ _))
          refine wpQuiet_nil ?_
          intro _ hw'
          obtain ⟨⟨dq, osq⟩, hw''⟩ := hw'
          subst hw''
          have HQ2 := Go.Lib.hid (below_regrown w2 dq osq)
          generalize Go.Sort.grow (redrawn w2 dq) osq = w4 at *
          go_wp2_with fail
          go_roundw
          all_goals
            have hnew : ∃ (fs2 : List Fr) (m : MT), msize s = msize m ∧ Value.pointer (some ⟨b, 5, none⟩) = .pointer (some (hereA tb fs2)) ∧ Value.pointer (some ⟨hb, hi, none⟩) = aboveV tb fs2 ∧ Hid (down p fs2 m = down p [] m0) ∧ Hid (plug fs2 m = m0) ∧ Hid (Below W1.heap.size W1 w4) :=
              ⟨⟨b, q, x, h, c, false, t⟩ :: fs, s, rfl, rfl, (by rw [← HE.out]; rfl), (show down p _ s = _ from (down_low HC.out HSD.out).symm.trans hdn.out), hpl.out, hbw.out.trans ((HQ.out.trans (HQ2.out.mono HQ.out.size)).mono hbw.out.size)⟩
          case rel => exact ⟨_, hnew⟩
          case measure =>
            refine Nat.lt_of_le_of_lt (least_le hnew) ?_
            have := HZ.out
            unfold ptr at *
            simp only [msize] at this
            omega
        · rw [hsd, show 5 + 1 = 6 from rfl] at CK
          have HSD := Go.Lib.hid hsd
          clear hsd
          go_wp2_with fail
          refine wp_region_quiet_below (by kernel_rfl) (by kernel_rfl) ?_
          repeat (first | go_big_quiet_step (exact CC _ _) | quiet_step (exact CC _ _))
          refine wpQuiet_nil ?_
          intro _ hw'
          obtain ⟨⟨dq, osq⟩, hw''⟩ := hw'
          subst hw''
          have HQ := Go.Lib.hid (below_regrown wr dq osq)
          have b0 := (HQ.out.cell (p := ⟨n0, 0, none⟩) (block_lt_of_cell cp0)).trans cp0
          have b1 := (HQ.out.cell (p := ⟨n0, 1, none⟩) (block_lt_of_cell cp1)).trans cp1
          have bh := (HQ.out.cell (p := ⟨hb, hi, none⟩) (block_lt_of_cell hcell)).trans hcell
          generalize Go.Sort.grow (redrawn wr dq) osq = w2 at *
          clear CC k0 k1 k2 k3 k4 d0 d1 cp0 cp1 hcell
          go_wp2_with fail
          have k0 := cell_regrown b0
          have k1 := cell_regrown b1
          have k2 := cell_regrown bh
          have CKR := inReg (W := w2) (fun W' hw => CK.out W' (HND.out _ (HQ.out.trans (hw.mono HQ.out.size))))
          clear b0 b1 bh
          refine wp_region_quiet_below (by kernel_rfl) (by kernel_rfl) ?_
          repeat (first | go_big_quiet_step (exact CKR _ _) | quiet_step (exact CKR _ _))
          refine wpQuiet_nil ?_
          intro _ hw'
          obtain ⟨⟨dq, osq⟩, hw''⟩ := hw'
          subst hw''
          have HQ2 := Go.Lib.hid (below_regrown w2 dq osq)
          generalize Go.Sort.grow (redrawn w2 dq) osq = w4 at *
          go_wp2_with fail
          go_roundw
          all_goals
            have hnew : ∃ (fs2 : List Fr) (m : MT), msize t = msize m ∧ Value.pointer (some ⟨b, 6, none⟩) = .pointer (some (hereA tb fs2)) ∧ Value.pointer (some ⟨hb, hi, none⟩) = aboveV tb fs2 ∧ Hid (down p fs2 m = down p [] m0) ∧ Hid (plug fs2 m = m0) ∧ Hid (Below W1.heap.size W1 w4) :=
              ⟨⟨b, q, x, h, c, true, s⟩ :: fs, t, rfl, rfl, (by rw [← HE.out]; rfl), (show down p _ t = _ from (down_high HC.out HSD.out).symm.trans hdn.out), hpl.out, hbw.out.trans ((HQ.out.trans (HQ2.out.mono HQ.out.size)).mono hbw.out.size)⟩
          case rel => exact ⟨_, hnew⟩
          case measure =>
            refine Nat.lt_of_le_of_lt (least_le hnew) ?_
            have := HZ.out
            unfold ptr at *
            simp only [msize] at this
            omega
end Go.Proofs.Ytpcahgnibdampaa.Tri
namespace Go.Proofs.Ytpcahgnibdampaa.Tri
open Go.RowKit Mem PR Pfx Oct
end Go.Proofs.Ytpcahgnibdampaa.Tri
