/- The contracts of the trie's Longest and Nodes. -/
import Derived.Test.YtpcahgnibdampaaP24
import Derived.Test.YtpcahgnibdampaaP04
import Derived.Test.YtpcahgnibdampaaP15
import Derived.Outline
import Derived.Deep.DeepCutAuto
import Derived.Deep.CutRange
import Derived.Deep.Cut
import Derived.Laws.Tables
import Derived.BigQuiet
import Derived.Deep.RegionHeld3
import Derived.Lib.QuietBelow
namespace Go.Proofs.Ytpcahgnibdampaa.Tri
open Go.RowKit Mem PR Pfx Oct
theorem found_cells {W : World} {x0 x1 x2 : Nat} {v0 : Pf} {v1 : Int} {v2 : Bool} (h : Found W x0 x1 x2 v0 v1 v2) : W.cell? ⟨x0, 0, none⟩ = some (.int .u32 (v0.a : Int)) ∧ W.cell? ⟨x0, 1, none⟩ = some (.int .i64 v0.n) ∧ W.cell? ⟨x1, 0, none⟩ = some (.int .i64 v1) ∧ W.cell? ⟨x2, 0, none⟩ = some (.bool v2) :=
  ⟨cell_at h.1 rfl, cell_at h.1 rfl, cell_at h.2.1 rfl, cell_at h.2.2 rfl⟩
theorem found_froz {W : World} {x0 x1 x2 : Nat} {v0 : Pf} {v1 : Int} {v2 : Bool} (h : Found W x0 x1 x2 v0 v1 v2) : W.frozen? ⟨x0, 0, none⟩ = false ∧ W.frozen? ⟨x0, 1, none⟩ = false ∧ W.frozen? ⟨x1, 0, none⟩ = false ∧ W.frozen? ⟨x2, 0, none⟩ = false :=
  ⟨frozen_of_row W _ 0 _ _ h.1, frozen_of_row W _ 1 _ _ h.1, frozen_of_row W _ 0 _ _ h.2.1, frozen_of_row W _ 0 _ _ h.2.2⟩
theorem found_drew {W : World} {x0 x1 x2 : Nat} {v0 : Pf} {v1 : Int} {v2 : Bool} (h : Found W x0 x1 x2 v0 v1 v2) : Found W.drew x0 x1 x2 v0 v1 v2 := h
theorem found_st0 {W : World} {x : Nat} {v0 : Pf} {v1 : Int} {v2 : Bool} (h : Found W x (x + 1) (x + 2) v0 v1 v2) : Found ((W.setCell ⟨x, 0, none⟩ (.int .u32 (v0.a : Int))).setCell ⟨x, 1, none⟩ (.int .i64 v0.n)) x (x + 1) (x + 2) v0 v1 v2 :=
  ⟨heap_set (W := (W.setCell ⟨x, 0, none⟩ (.int .u32 (v0.a : Int)))) (i := 1) (.int .i64 v0.n) (heap_set (W := W) (i := 0) (.int .u32 (v0.a : Int)) h.1), (set_ne (by omega)).trans ((set_ne (by omega)).trans h.2.1), (set_ne (by omega)).trans ((set_ne (by omega)).trans h.2.2)⟩
theorem found_st1 {W : World} {x : Nat} {v0 : Pf} {v1 : Int} {v2 : Bool} (h : Found W x (x + 1) (x + 2) v0 v1 v2) : Found (W.setCell ⟨x + 1, 0, none⟩ (.int .i64 v1)) x (x + 1) (x + 2) v0 v1 v2 :=
  ⟨(set_ne (by omega)).trans h.1, heap_set (i := 0) (.int .i64 v1) h.2.1, (set_ne (by omega)).trans h.2.2⟩
theorem found_st2 {W : World} {x : Nat} {v0 : Pf} {v1 : Int} {v2 : Bool} (h : Found W x (x + 1) (x + 2) v0 v1 v2) : Found (W.setCell ⟨x + 2, 0, none⟩ (.bool v2)) x (x + 1) (x + 2) v0 v1 v2 :=
  ⟨(set_ne (by omega)).trans h.1, (set_ne (by omega)).trans h.2.1, heap_set (i := 0) (.bool v2) h.2.2⟩
def entP : Option Ent → Pf
  | none => ⟨0, 0⟩
  | some e => e.p
def entV : Option Ent → Int
  | none => 0
  | some e => e.v
def FoundO (W : World) (x0 x1 x2 : Nat) (o : Option Ent) : Prop := Found W x0 x1 x2 (entP o) (entV o) o.isSome
theorem found_pick {W : World} {x0 x1 x2 : Nat} {q : Pf} {x : Int} {h : Bool} {o : Option Ent} (hf : Found W x0 x1 x2 (if h then q else entP o) (if h then x else entV o) (if h then true else o.isSome)) : FoundO W x0 x1 x2 (pickE q (if h then some x else none) o) := by
  cases h <;> exact hf
structure RL (W0 : World) (base x0 xh n0 : Nat) (a : Nat) (total : Option Ent) (m : MT) (W : World) : Prop where
  found : ∃ o, longM a m o = total ∧ FoundO W x0 (x0 + 1) (x0 + 2) o
  low : Below base W0 W
  hs : base ≤ W.heap.size
  hx : base ≤ x0
  hn : x0 + 2 < xh
  hn2 : xh < n0
  xhs : xh < W.heap.size
  host : W.heap[xh]? = some (.cells #[.int .u32 (a : Int), .int .i64 32] 25)
  xs : x0 + 2 < W.heap.size
  mt : Mt W0 m
  wf : WF (tr m)
theorem rl_goes {W0 : World} {base x0 xh n0 a : Nat} {total : Option Ent} (h0 : W0.heap.size = base) : Goes (RL W0 base x0 xh n0 a total) where
  keep := fun h hb => by
    obtain ⟨o, h1, g0, g1, g2⟩ := h.found
    exact { h with found := ⟨o, h1, (hb.block _ (by have := h.xs; omega)).trans g0, (hb.block _ (by have := h.xs; omega)).trans g1, (hb.block _ h.xs).trans g2⟩, low := h.low.trans (hb.mono h.hs), hs := Nat.le_trans h.hs hb.size, xhs := Nat.lt_of_lt_of_le h.xhs hb.size, host := (hb.block _ h.xhs).trans h.host, xs := Nat.lt_of_lt_of_le h.xs hb.size }
  nd := fun h => by
    have hl := h.mt.1.low
    rw [h0] at hl
    exact ⟨(h.low.block _ hl).trans h.mt.1, h.wf.1⟩
theorem rl_visits {W0 : World} {base x0 xh n0 a : Nat} {total : Option Ent} (h0 : W0.heap.size = base) :
    Visits 34 #[.pointer (some ⟨x0, 0, none⟩), .pointer (some ⟨x0 + 1, 0, none⟩), .pointer (some ⟨x0 + 2, 0, none⟩)] (addrP a) n0 (RL W0 base x0 xh n0 a total) := by
  intro b q x h c s t W hn hr hc
  obtain ⟨o, h1, h2⟩ := hr.found
  have hl := hr.mt.1.low
  rw [h0] at hl
  have a1 : Nd W b q x h c (ptr s) (ptr t) := (hr.low.block _ hl).trans hr.mt.1
  refine (long1_any a1 h2 (by omega) (by omega) (by omega)).mono ?_
  rintro e W' ⟨rfl, b1, b2, b3, b4, b5, b6⟩
  have hx := hr.hx
  have hnn := hr.hn
  have hn2 := hr.hn2
  refine ⟨rfl, by omega, b6 n0 (by omega) (by omega) (by omega), ⟨x, h, c, (b6 b (by omega) (by omega) (by omega)).trans a1⟩, ?_⟩
  refine { hr with found := ⟨_, ?_, found_pick b1⟩, low := ⟨b3.trans hr.low.os, b4.trans hr.low.tape, b5.trans hr.low.output, by have := hr.low.size; omega, fun k hk => (b6 k (by omega) (by omega) (by omega)).trans (hr.low.block k hk)⟩, hs := by have := hr.hs; omega, xhs := by have := hr.xhs; omega, host := (b6 xh (by omega) (by omega) (by omega)).trans hr.host, xs := by have := hr.xs; omega, mt := mt_kid hr.mt, wf := wf_kid hr.wf }
  rw [← h1, ← long_kid]
  rw [show longM a (.node b q x h c s t) o = if covP q (addrP a) then (if sd q (addrP a) = 0 then longM a s (pickE q (if h then some x else none) o) else longM a t (pickE q (if h then some x else none) o)) else o from rfl, if_pos hc]
theorem rl_end {W0 W : World} {base x0 xh n0 a : Nat} {total : Option Ent} {m : MT} (hr : RL W0 base x0 xh n0 a total m W) (he : Ends (addrP a) m) : FoundO W x0 (x0 + 1) (x0 + 2) total ∧ Below base W0 W := by
  obtain ⟨o, h1, h2⟩ := hr.found
  have : longM a m o = o := by
    cases m with
    | nil => rfl
    | node b q x h c s t =>
      have he : covP q (addrP a) = false := he
      rw [show longM a (.node b q x h c s t) o = if covP q (addrP a) then (if sd q (addrP a) = 0 then longM a s (pickE q (if h then some x else none) o) else longM a t (pickE q (if h then some x else none) o)) else o from rfl, he]
      rfl
  rw [this] at h1
  exact ⟨h1 ▸ h2, hr.low⟩
theorem addr_ok {a : Nat} (ha : a < 4294967296) : (addrP a).ok := ⟨ha, show (Lit.int .i64 32).wf = true by decide⟩
set_option maxRecDepth 100000 in
set_option maxHeartbeats 4000000 in
theorem long_m {W : World} {tv : Value} {m : MT} (a : Nat) (ha : a < 4294967296) (hT : Topped W tv m) (hw : WF (tr m)) :
    Calls Try.prog 12 #[tv, .int .u32 a] W (Tells (longV (longM a m none)) W) := by
  obtain ⟨W1, hW1⟩ : ∃ W1, W.alloc (.cells #[.int .u32 0, .int .i64 0] 25) = W1 := ⟨_, rfl⟩
  obtain ⟨W2, hW2⟩ : ∃ W2, W1.alloc (.cells #[.int .i64 0] 3) = W2 := ⟨_, rfl⟩
  obtain ⟨W3, hW3⟩ : ∃ W3, W2.alloc (.cells #[.bool false] 4) = W3 := ⟨_, rfl⟩
  have s1 : W1.heap.size = W.heap.size + 1 := by rw [← hW1]; simp
  have s2 : W2.heap.size = W.heap.size + 2 := by rw [← hW2]; simp [s1]
  have s3 : W3.heap.size = W.heap.size + 3 := by rw [← hW3]; simp [s2]
  have b1 : Below W.heap.size W W1 := by rw [← hW1]; exact below_new _ _
  have b2 : Below W1.heap.size W1 W2 := by rw [← hW2]; exact below_new _ _
  have b3 : Below W2.heap.size W2 W3 := by rw [← hW3]; exact below_new _ _
  have g0 : W3.heap[W.heap.size]? = some (.cells #[.int .u32 0, .int .i64 0] 25) := (b3.block _ (by omega)).trans ((b2.block _ (by omega)).trans (by rw [← hW1]; exact heap_alloc_new _ _))
  have g1 : W3.heap[W.heap.size + 1]? = some (.cells #[.int .i64 0] 3) := (b3.block _ (by omega)).trans (by rw [← hW2, ← s1]; exact heap_alloc_new _ _)
  have g2 : W3.heap[W.heap.size + 2]? = some (.cells #[.bool false] 4) := by rw [← hW3, ← s2]; exact heap_alloc_new _ _
  have HB := Go.Lib.hid (Pfx.Below.tr b1 (Pfx.Below.tr b2 b3))
  have CM := Go.Lib.hid (make_in a 32 ha (by decide))
  rw [cutN_32] at CM
  have CT := Go.Lib.hid (fun (W' : World) (h : Below W3.heap.size W3 W') => hT.top W' (Pfx.Below.tr HB.out h))
  have CO := Go.Lib.hid (fun (W' : World) (xh : Nat) (h : Below W3.heap.size W3 W') (hx : W3.heap.size ≤ xh) (hx2 : xh < W'.heap.size) (hh : W'.heap[xh]? = some (.cells #[.int .u32 (a : Int), .int .i64 32] 25)) => over_any 34 #[.pointer (some ⟨W.heap.size, 0, none⟩), .pointer (some ⟨W.heap.size + 1, 0, none⟩), .pointer (some ⟨W.heap.size + 2, 0, none⟩)] enters_long (addrP a) (addr_ok ha) (RL W W.heap.size W.heap.size xh W'.heap.size a (longM a m none)) (rl_goes rfl) m W'
    ⟨⟨none, rfl, (h.block _ (by omega)).trans g0, (h.block _ (by omega)).trans g1, (h.block _ (by omega)).trans g2⟩, Pfx.Below.tr HB.out h, by have := h.size; omega, Nat.le_refl _, by omega, hx2, hx2, hh, by have := h.size; omega, hT.mt, hw⟩ (rl_visits rfl))
  clear hT hw g0 g1 g2 b1 b2 b3
  generalize longM a m none = T at *
  unfold addrP pV at *
  go_enter Try.func12, Try.ntmps12
  go_upto_region 2 with (go_at_call 32; refine (CM.out _).mono ?_; rintro e w4 ⟨rfl, hb4⟩; have B4 := Go.Lib.hid hb4; clear hb4)
  obtain ⟨W5, hW5⟩ : ∃ W5, w4.alloc (.cells #[.int .u32 (a : Int), .int .i64 32] 25) = W5 := ⟨_, rfl⟩
  have B5 := Go.Lib.hid (show Below W3.heap.size W3 W5 by rw [← hW5]; exact Pfx.Below.tr B4.out (below_new _ _))
  have S5 : W5.heap.size = w4.heap.size + 1 := by rw [← hW5]; simp
  have S5' := Go.Lib.hid S5
  have HH := Go.Lib.hid (fun (W' : World) (h : Below W5.heap.size W5 W') => ((h.block _ (by rw [S5]; omega)).trans (by rw [← hW5]; exact heap_alloc_new _ _) : W'.heap[w4.heap.size]? = some (.cells #[.int .u32 (a : Int), .int .i64 32] 25)))
  have HKP := Go.Lib.hid (fun (W' : World) (h : Below W5.heap.size W5 W') => (⟨cell_at (HH.out W' h) rfl, cell_at (HH.out W' h) rfl⟩ : W'.cell? ⟨w4.heap.size, 0, none⟩ = some (.int .u32 (a : Int)) ∧ W'.cell? ⟨w4.heap.size, 1, none⟩ = some (.int .i64 32)))
  have hx4 := B4.out.size
  have HX4 := Go.Lib.hid hx4
  rw [hW5]
  obtain ⟨z0, z1⟩ := HKP.out _ (Below.refl _ _)
  clear hW5 hx4 S5
  generalize w4.heap.size = xh at *
  go_region_held3 (fun w' => w'.cell? ⟨xh, 0, none⟩ = some (.int .u32 (a : Int)) ∧ w'.cell? ⟨xh, 1, none⟩ = some (.int .i64 32)) (first | assumption | exact HKP.out _ ((Below.refl _ _).drew) | exact HKP.out _ B6.out | trivial) (first
    | (go_at_call 31; refine (CT.out _ (B5.out.trans (((Below.refl W5.heap.size W5).drew).mono B5.out.size))).mono ?_; rintro e w6 ⟨rfl, hb6⟩; have B6 := Go.Lib.hid ((Below.refl W5.heap.size W5).drew.trans (hb6.mono (Below.refl W5.heap.size W5).drew.size)); clear hb6)
    | (go_at_call 33; refine (CO.out _ xh (B5.out.trans (B6.out.mono B5.out.size)) HX4.out (Nat.lt_of_lt_of_le (by rw [S5'.out]; omega) B6.out.size) (HH.out _ B6.out)).mono ?_; rintro e w7 ⟨rfl, m7, hr7, he7⟩; obtain ⟨hf7, hl7⟩ := rl_end hr7 he7; have s7 : w7.cell? ⟨xh, 0, none⟩ = some (.int .u32 (a : Int)) ∧ w7.cell? ⟨xh, 1, none⟩ = some (.int .i64 32) := ⟨cell_at hr7.host rfl, cell_at hr7.host rfl⟩; have F7 := Go.Lib.hid hf7; have L7 := Go.Lib.hid hl7; clear hr7 he7 hf7 hl7))
  all_goals
    obtain ⟨lp, lv, lb, hlv, F7⟩ : ∃ lp lv lb, longV T = .tuple #[pV lp, .int .i64 lv, .bool lb] ∧ Hid (Found w7 W.heap.size (W.heap.size + 1) (W.heap.size + 2) lp lv lb) := ⟨entP T, entV T, T.isSome, by cases T <;> rfl, F7⟩
    have HLV := Go.Lib.hid hlv
    have HS := Go.Lib.hid (fun (W' : World) (h : Found W' W.heap.size (W.heap.size + 1) (W.heap.size + 2) lp lv lb) => found_cells h)
    have HFR := Go.Lib.hid (fun (W' : World) (h : Found W' W.heap.size (W.heap.size + 1) (W.heap.size + 2) lp lv lb) => found_froz h)
    have FD := Go.Lib.hid (show Found w7.drew W.heap.size (W.heap.size + 1) (W.heap.size + 2) lp lv lb from F7.out)
    have FA := Go.Lib.hid (found_st0 F7.out)
    have FB := Go.Lib.hid (found_st1 FA.out)
    have FC := Go.Lib.hid (found_st2 FB.out)
    clear hlv
    go_wp2
    refine wp_region_noPanic ?_
    refine wp_region_held_drew (S := fun w' => w'.cell? ⟨W.heap.size, 0, none⟩ = some (.int .u32 (lp.a : Int)) ∧ w'.cell? ⟨W.heap.size, 1, none⟩ = some (.int .i64 lp.n) ∧ w'.cell? ⟨W.heap.size + 1, 0, none⟩ = some (.int .i64 lv) ∧ w'.cell? ⟨W.heap.size + 2, 0, none⟩ = some (.bool lb)) (by kernel_rfl) (HS.out _ FD.out) (fun hHeld => ?_)
    refine Take.tk 0 19 hHeld ?_
    refine Take.tk 1 20 hHeld ?_
    refine Take.tk 2 21 hHeld ?_
    try simp only [Act.put, Take.nm]
    refine wpAnyH_ready (rs := [3]) (by kernel_rfl) (by simp) ?_
    refine AllReadyH.cons (o := _) (by rfl) (fun K hK => ?_) AllReadyH.nil
    obtain ⟨f0, f1, f2, f3⟩ := HFR.out _ F7.out
    obtain ⟨c0, c1, c2, c3⟩ := HS.out _ F7.out
    go_simp
    refine hK.out _ _ (HS.out _ (found_drew FA.out)) (fun h2 => ?_)
    clear hK K
    try simp only [Act.put, Take.nm]
    refine wpAnyH_ready (rs := [4]) (by kernel_rfl) (by simp) ?_
    refine AllReadyH.cons (o := _) (by rfl) (fun K hK => ?_) AllReadyH.nil
    go_simp
    refine hK.out _ _ (HS.out _ (found_drew FB.out)) (fun h3 => ?_)
    clear hK K
    try simp only [Act.put, Take.nm]
    refine wpAnyH_ready (rs := [5]) (by kernel_rfl) (by simp) ?_
    refine AllReadyH.cons (o := _) (by rfl) (fun K hK => ?_) AllReadyH.nil
    go_simp
    refine hK.out _ _ (HS.out _ (found_drew FC.out)) (fun h4 => ?_)
    clear hK K
    try simp only [Act.put, Take.nm]
    refine wpAnyH_done (by kernel_rfl) ?_ _
    refine NoPanic.normal ?_
    obtain ⟨r0, r1, r2, r3⟩ := h4
    have HEND := Go.Lib.hid (show Below W.heap.size W (((((w7.setCell ⟨W.heap.size, 0, none⟩ (.int .u32 (lp.a : Int))).setCell ⟨W.heap.size, 1, none⟩ (.int .i64 lp.n)).setCell ⟨W.heap.size + 1, 0, none⟩ (.int .i64 lv)).setCell ⟨W.heap.size + 2, 0, none⟩ (.bool lb)).drew) from
      (((((L7.out.setCell (p := ⟨W.heap.size, 0, none⟩) (Nat.le_refl _) _).setCell (p := ⟨W.heap.size, 1, none⟩) (Nat.le_refl _) _).setCell (p := ⟨W.heap.size + 1, 0, none⟩) (Nat.le_succ _) _).setCell (p := ⟨W.heap.size + 2, 0, none⟩) (show W.heap.size ≤ W.heap.size + 2 by omega) _).drew))
    (try go_wp2)
    refine bodyPost_ret (v := .tuple #[.agg #[.int .u32 (lp.a : Int), .int .i64 lp.n], .int .i64 lv, .bool lb]) (by simp [results, Try.results12, go_sem, *]) rfl ⟨?_, HEND.out⟩
    rw [HLV.out]; rfl
end Go.Proofs.Ytpcahgnibdampaa.Tri
