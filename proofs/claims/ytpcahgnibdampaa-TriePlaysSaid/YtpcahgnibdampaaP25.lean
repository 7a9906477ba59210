/- The contracts of the trie's tidy and insert. -/
import Derived.Test.YtpcahgnibdampaaP12
import Derived.Test.YtpcahgnibdampaaP20
import Derived.Test.YtpcahgnibdampaaP22
import Derived.Outline
import Derived.Deep.DeepCutAuto
import Derived.Deep.CutRange
import Derived.Deep.Cut
import Derived.Laws.Tables
import Derived.BigQuiet
import Derived.Deep.RegionHeld3
import Derived.Lib.QuietBelow
namespace Go.Proofs.Ytpcahgnibdampaa.Tri
open Go.RowKit Mem PR Pfx Oct
def tidyM : MT → MT
  | .nil => .nil
  | .node b q x h c s t => if h then .node b q x h c s t else match s with
    | .nil => t
    | .node b2 q2 x2 h2 c2 s2 t2 => match t with
      | .nil => .node b2 q2 x2 h2 c2 s2 t2
      | .node b3 q3 x3 h3 c3 s3 t3 => .node b q x h c (.node b2 q2 x2 h2 c2 s2 t2) (.node b3 q3 x3 h3 c3 s3 t3)
set_option maxRecDepth 100000 in
set_option maxHeartbeats 4000000 in
theorem tidy_any {W : World} {hb hi b : Nat} {q : Pf} {x : Int} {h : Bool} {c : Int} {s t : MT} (hc : W.cell? ⟨hb, hi, none⟩ = some (.pointer (some ⟨b, 0, none⟩))) (hz : W.frozen? ⟨hb, hi, none⟩ = false) (hn : Nd W b q x h c (ptr s) (ptr t)) :
    Calls Try.prog 48 #[.pointer (some ⟨hb, hi, none⟩)] W fun e W' => e = .returned (.tuple #[]) ∧
      ((tidyM (.node b q x h c s t) = .node b q x h c s t ∧ Below W.heap.size W W') ∨ ∃ W1, Below W.heap.size W W1 ∧ W' = W1.setCell ⟨hb, hi, none⟩ (ptr (tidyM (.node b q x h c s t)))) := by
  obtain ⟨-, -, -, d3, -, d5, d6⟩ := hn.cells
  have k0 := cell_regrown d3
  have k1 := cell_regrown d5
  have k2 := cell_regrown d6
  have hbl := hn.low
  have hhl := block_lt_of_cell hc
  have HFZ := Go.Lib.hid (fun (W' : World) (hw : Below W.heap.size W W') => (⟨(hw.cell (p := ⟨b, 3, none⟩) hbl).trans d3, (hw.cell (p := ⟨hb, hi, none⟩) hhl).trans hc, (hw.frozen (p := ⟨hb, hi, none⟩) hhl).trans hz⟩ : W'.cell? ⟨b, 3, none⟩ = some (.bool h) ∧ W'.cell? ⟨hb, hi, none⟩ = some (.pointer (some ⟨b, 0, none⟩)) ∧ W'.frozen? ⟨hb, hi, none⟩ = false))
  clear hn hbl hhl
  go_enter Try.func48, Try.ntmps48
  go_wp2_with fail
  refine wp_region_quiet_below (by kernel_rfl) (by kernel_rfl) ?_
  repeat (first | go_big_quiet_step (fail) | quiet_step (fail))
  refine wpQuiet_nil ?_
  intro _ hw'
  obtain ⟨⟨dq, osq⟩, hw''⟩ := hw'
  subst hw''
  have HQ := Go.Lib.hid (below_regrown W dq osq)
  obtain ⟨e0, e1, e2⟩ := HFZ.out _ HQ.out
  generalize Go.Sort.grow (redrawn W dq) osq = w2 at *
  clear k0 k1 k2 d3 d5 d6 hc hz
  cases h with
  | true =>
    go_wp2
    refine bodyPost_end (v := .tuple #[]) (by simp [results, Try.results48, go_sem]) rfl ?_
    exact ⟨rfl, .inl ⟨rfl, HQ.out⟩⟩
  | false =>
    rcases nil_or s with rfl | ⟨b2, q2, x2, h2, c2, s2, t2, rfl⟩
    · rcases nil_or t with rfl | ⟨b3, q3, x3, h3, c3, s3, t3, rfl⟩
      · rw [show ptr .nil = .pointer none from rfl]
        go_wp2
        refine bodyPost_end (v := .tuple #[]) (by simp [results, Try.results48, go_sem]) rfl ?_
        exact ⟨rfl, .inr ⟨w2, HQ.out, rfl⟩⟩
      · rw [show ptr .nil = .pointer none from rfl, show ptr (.node b3 q3 x3 h3 c3 s3 t3) = .pointer (some ⟨b3, 0, none⟩) from rfl]
        go_wp2
        refine bodyPost_end (v := .tuple #[]) (by simp [results, Try.results48, go_sem]) rfl ?_
        exact ⟨rfl, .inr ⟨w2, HQ.out, rfl⟩⟩
    · rcases nil_or t with rfl | ⟨b3, q3, x3, h3, c3, s3, t3, rfl⟩
      · rw [show ptr .nil = .pointer none from rfl, show ptr (.node b2 q2 x2 h2 c2 s2 t2) = .pointer (some ⟨b2, 0, none⟩) from rfl]
        go_wp2
        refine bodyPost_end (v := .tuple #[]) (by simp [results, Try.results48, go_sem]) rfl ?_
        exact ⟨rfl, .inr ⟨w2, HQ.out, rfl⟩⟩
      · rw [show ptr (.node b3 q3 x3 h3 c3 s3 t3) = .pointer (some ⟨b3, 0, none⟩) from rfl, show ptr (.node b2 q2 x2 h2 c2 s2 t2) = .pointer (some ⟨b2, 0, none⟩) from rfl]
        go_wp2
        refine bodyPost_end (v := .tuple #[]) (by simp [results, Try.results48, go_sem]) rfl ?_
        exact ⟨rfl, .inl ⟨rfl, HQ.out⟩⟩
set_option maxRecDepth 100000 in
set_option maxHeartbeats 4000000 in
theorem com_any {p q : Pf} (hp : goodP p = true) (hpa : p.a < 4294967296) (hq : goodP q = true) (hqa : q.a < 4294967296) (W : World) : Calls Try.prog 58 #[pV p, pV q] W (Tells (pV (comP p q)) W) := by
  obtain ⟨h0, h1⟩ := good_len hp
  obtain ⟨g0, g1⟩ := good_len hq
  obtain ⟨pa, pn⟩ := p
  obtain ⟨qa, qn⟩ := q
  obtain ⟨k, rfl⟩ := Int.eq_ofNat_of_zero_le h0
  obtain ⟨l, rfl⟩ := Int.eq_ofNat_of_zero_le g0
  exact common_good pa k qa l hpa hqa (by have : ((k : Nat) : Int) ≤ 32 := h1; omega) hp hq W
theorem com_cov {p q : Pf} (hp : goodP p = true) (hpa : p.a < 4294967296) (hqa : q.a < 4294967296) (h : Cov p q) : comP p q = p := by
  have l1 := good_len hp
  have h2 : comN p.a p.n.toNat q.a q.n.toNat = p.n.toNat := by
    have ha : p.n.toNat ≤ alikeN p.a q.a := (alike_iff p.a q.a p.n.toNat hpa hqa (by omega)).2 (by rw [good_cut hp, h.2])
    unfold comN
    have := h.1
    omega
  exact pf_ext (by unfold comP; rw [h2]; exact good_cut hp) (by unfold comP; rw [h2]; show ((p.n.toNat : Nat) : Int) = p.n; omega)
def At (W : World) (hb hi : Nat) (v : Value) : Prop := W.cell? ⟨hb, hi, none⟩ = some v ∧ W.frozen? ⟨hb, hi, none⟩ = false
theorem At.keep {W W' : World} {hb hi : Nat} {v : Value} (h : At W hb hi v) (k : Below W.heap.size W W') : At W' hb hi v :=
  ⟨(k.cell (p := ⟨hb, hi, none⟩) (block_lt_of_cell h.1)).trans h.1, (k.frozen (p := ⟨hb, hi, none⟩) (block_lt_of_cell h.1)).trans h.2⟩
def insL (b1 b2 : Nat) (p : Pf) (x : Int) (h : Bool) : MT → MT
  | .nil => .node b1 p x h 0 .nil .nil
  | .node b q x0 h0 c s t => if covP p q then (if sd p q = 0 then .node b1 p x h c (.node b q x0 h0 c s t) .nil else .node b1 p x h c .nil (.node b q x0 h0 c s t))
    else (if sd (comP p q) p = 0 then .node b2 (comP p q) 0 false c (.node b1 p x h 0 .nil .nil) (.node b q x0 h0 c s t) else .node b2 (comP p q) 0 false c (.node b q x0 h0 c s t) (.node b1 p x h 0 .nil .nil))
theorem insL_node (b1 b2 : Nat) (p : Pf) (x : Int) (h : Bool) (b : Nat) (q : Pf) (x0 : Int) (h0 : Bool) (c : Int) (s t : MT) : insL b1 b2 p x h (.node b q x0 h0 c s t) = if covP p q then (if sd p q = 0 then .node b1 p x h c (.node b q x0 h0 c s t) .nil else .node b1 p x h c .nil (.node b q x0 h0 c s t))
    else (if sd (comP p q) p = 0 then .node b2 (comP p q) 0 false c (.node b1 p x h 0 .nil .nil) (.node b q x0 h0 c s t) else .node b2 (comP p q) 0 false c (.node b q x0 h0 c s t) (.node b1 p x h 0 .nil .nil)) := rfl
def InsF (hb hi : Nat) (p : Pf) (m : MT) (W : World) (e : Ending) (W' : World) : Prop :=
  ∃ b1 b2 W9, e = .returned (.pointer (some ⟨b1, 0, none⟩)) ∧ W.heap.size ≤ b1 ∧ W.heap.size ≤ b2 ∧ b1 ≠ b2 ∧ Below W.heap.size W W9 ∧ Mt W9 (insL b1 b2 p 0 false m) ∧ W' = W9.setCell ⟨hb, hi, none⟩ (ptr (insL b1 b2 p 0 false m))
set_option maxRecDepth 100000 in
set_option maxHeartbeats 16000000 in
theorem insert_nil {W : World} {hb hi : Nat} (p : Pf) (ha : At W hb hi (.pointer none)) : Calls Try.prog 44 #[.pointer (some ⟨hb, hi, none⟩), pV p] W (InsF hb hi p .nil W) := by
  obtain ⟨W1, hW1⟩ : ∃ W1, W.alloc (.cells #[.int .u32 (p.a : Int), .int .i64 p.n] 25) = W1 := ⟨_, rfl⟩
  have s1 : W1.heap.size = W.heap.size + 1 := by rw [← hW1]; simp
  have b1 : Below W.heap.size W W1 := by rw [← hW1]; exact below_new _ _
  have g0 : W1.heap[W.heap.size]? = some (.cells #[.int .u32 (p.a : Int), .int .i64 p.n] 25) := by rw [← hW1]; exact heap_alloc_new _ _
  have c0 : W1.cell? ⟨W.heap.size, 0, none⟩ = some (.int .u32 (p.a : Int)) := cell_at g0 rfl
  have c1 : W1.cell? ⟨W.heap.size, 1, none⟩ = some (.int .i64 p.n) := cell_at g0 rfl
  have HB := Go.Lib.hid b1
  have HHB := Go.Lib.hid (block_lt_of_cell ha.1)
  have HA := Go.Lib.hid (fun (W' : World) (h : Below W.heap.size W W') => ha.keep h)
  obtain ⟨a0, a1⟩ := ha.keep b1
  have HS := Go.Lib.hid (fun (W' : World) (h : Below W1.heap.size W1 W') => (⟨(h.cell (p := ⟨W.heap.size, 0, none⟩) (show W.heap.size < W1.heap.size by omega)).trans c0, (h.cell (p := ⟨W.heap.size, 1, none⟩) (show W.heap.size < W1.heap.size by omega)).trans c1, (HA.out W' (Pfx.Below.tr b1 h)).1⟩ : W'.cell? ⟨W.heap.size, 0, none⟩ = some (.int .u32 (p.a : Int)) ∧ W'.cell? ⟨W.heap.size, 1, none⟩ = some (.int .i64 p.n) ∧ W'.cell? ⟨hb, hi, none⟩ = some (.pointer none)))
  have HBX := Go.Lib.hid (show Below W1.heap.size W1 (W1.drew.alloc (.cells (ncell p 0 false 0 (.pointer none) (.pointer none)) 64)) from ((Below.refl _ _).drew).alloc (Nat.le_refl _) _)
  have HBY := Go.Lib.hid (show Below W1.heap.size W1 ((W1.alloc (.cells (ncell p 0 false 0 (.pointer none) (.pointer none)) 64)).drew) from ((Below.refl _ _).alloc (Nat.le_refl _) _).drew)
  have HN1 := Go.Lib.hid (show Nd ((W1.alloc (.cells (ncell p 0 false 0 (.pointer none) (.pointer none)) 64)).drew) (W.heap.size + 1) p 0 false 0 (.pointer none) (.pointer none) from by
    rw [← s1]; exact heap_alloc_new _ _)
  have HSY := Go.Lib.hid (show ((W1.alloc (.cells (ncell p 0 false 0 (.pointer none) (.pointer none)) 64)).drew).heap.size = W.heap.size + 2 by show (W1.alloc _).heap.size = _; simp [s1])
  have S1 := Go.Lib.hid s1
  clear g0 ha b1
  unfold pV
  go_enter Try.func44, Try.ntmps44
  go_wp2
  go_region_held3 (fun w' => w'.cell? ⟨W.heap.size, 0, none⟩ = some (.int .u32 (p.a : Int)) ∧ w'.cell? ⟨W.heap.size, 1, none⟩ = some (.int .i64 p.n) ∧ w'.cell? ⟨hb, hi, none⟩ = some (.pointer none)) (first | assumption | exact HS.out _ ((Below.refl _ _).drew) | exact HS.out _ HBX.out) (fail)
  have HN1' : Nd ((W1.alloc (.cells #[.int .u32 (p.a : Int), .int .i64 p.n, .int .i64 0, .bool false, .int .i64 0, .pointer none, .pointer none] 64)).drew) (W.heap.size + 1) p 0 false 0 (.pointer none) (.pointer none) := HN1.out
  have HB2 := Go.Lib.hid (show Below W1.heap.size W1 ((W1.alloc (.cells #[.int .u32 (p.a : Int), .int .i64 p.n, .int .i64 0, .bool false, .int .i64 0, .pointer none, .pointer none] 64)).drew) from HBY.out)
  have HSZ2 := Go.Lib.hid (show ((W1.alloc (.cells #[.int .u32 (p.a : Int), .int .i64 p.n, .int .i64 0, .bool false, .int .i64 0, .pointer none, .pointer none] 64)).drew).heap.size = W.heap.size + 2 from HSY.out)
  have HNN := Go.Lib.hid HN1'
  clear HN1' HN1 HBX HBY HSY c0 c1 a0 a1 hW1 s1
  generalize (W1.alloc (.cells #[.int .u32 (p.a : Int), .int .i64 p.n, .int .i64 0, .bool false, .int .i64 0, .pointer none, .pointer none] 64)).drew = w2 at *
  obtain ⟨z0, z1⟩ := HA.out w2 (Pfx.Below.tr HB.out HB2.out)
  go_wp2
  go_ret
  exact ⟨W.heap.size + 1, W.heap.size + 2, w2, rfl, Nat.le_succ _, by omega, by omega, Pfx.Below.tr HB.out HB2.out, ⟨HNN.out, trivial, trivial⟩, rfl⟩
set_option maxRecDepth 100000 in
set_option maxHeartbeats 16000000 in
theorem insert_over {W : World} {hb hi : Nat} (p : Pf) {b : Nat} {q : Pf} {x : Int} {h : Bool} {c : Int} {s t : MT} (ha : At W hb hi (.pointer (some ⟨b, 0, none⟩))) (hm : Mt W (.node b q x h c s t)) (hp : goodP p = true) (hpa : p.a < 4294967296) (hq : goodP q = true) (hqa : q.a < 4294967296) (hc : Cov p q) : Calls Try.prog 44 #[.pointer (some ⟨hb, hi, none⟩), pV p] W (InsF hb hi p (.node b q x h c s t) W) := by
  obtain ⟨W1, hW1⟩ : ∃ W1, W.alloc (.cells #[.int .u32 (p.a : Int), .int .i64 p.n] 25) = W1 := ⟨_, rfl⟩
  have s1 : W1.heap.size = W.heap.size + 1 := by rw [← hW1]; simp
  have b1 : Below W.heap.size W W1 := by rw [← hW1]; exact below_new _ _
  have g0 : W1.heap[W.heap.size]? = some (.cells #[.int .u32 (p.a : Int), .int .i64 p.n] 25) := by rw [← hW1]; exact heap_alloc_new _ _
  have c0 : W1.cell? ⟨W.heap.size, 0, none⟩ = some (.int .u32 (p.a : Int)) := cell_at g0 rfl
  have c1 : W1.cell? ⟨W.heap.size, 1, none⟩ = some (.int .i64 p.n) := cell_at g0 rfl
  have HB := Go.Lib.hid b1
  have HHB := Go.Lib.hid (block_lt_of_cell ha.1)
  have HA := Go.Lib.hid (fun (W' : World) (h : Below W.heap.size W W') => ha.keep h)
  obtain ⟨a0, a1⟩ := ha.keep b1
  have HS := Go.Lib.hid (fun (W' : World) (h : Below W1.heap.size W1 W') => (⟨(h.cell (p := ⟨W.heap.size, 0, none⟩) (show W.heap.size < W1.heap.size by omega)).trans c0, (h.cell (p := ⟨W.heap.size, 1, none⟩) (show W.heap.size < W1.heap.size by omega)).trans c1, (HA.out W' (Pfx.Below.tr b1 h)).1⟩ : W'.cell? ⟨W.heap.size, 0, none⟩ = some (.int .u32 (p.a : Int)) ∧ W'.cell? ⟨W.heap.size, 1, none⟩ = some (.int .i64 p.n) ∧ W'.cell? ⟨hb, hi, none⟩ = some (.pointer (some ⟨b, 0, none⟩))))
  have HBX := Go.Lib.hid (show Below W1.heap.size W1 (W1.drew.alloc (.cells (ncell p 0 false 0 (.pointer none) (.pointer none)) 64)) from ((Below.refl _ _).drew).alloc (Nat.le_refl _) _)
  have HBY := Go.Lib.hid (show Below W1.heap.size W1 ((W1.alloc (.cells (ncell p 0 false 0 (.pointer none) (.pointer none)) 64)).drew) from ((Below.refl _ _).alloc (Nat.le_refl _) _).drew)
  have HN1 := Go.Lib.hid (show Nd ((W1.alloc (.cells (ncell p 0 false 0 (.pointer none) (.pointer none)) 64)).drew) (W.heap.size + 1) p 0 false 0 (.pointer none) (.pointer none) from by
    rw [← s1]; exact heap_alloc_new _ _)
  have HSY := Go.Lib.hid (show ((W1.alloc (.cells (ncell p 0 false 0 (.pointer none) (.pointer none)) 64)).drew).heap.size = W.heap.size + 2 by show (W1.alloc _).heap.size = _; simp [s1])
  have S1 := Go.Lib.hid s1
  have HM := Go.Lib.hid hm
  have HP := Go.Lib.hid (⟨hp, hpa, hq, hqa⟩ : goodP p = true ∧ p.a < 4294967296 ∧ goodP q = true ∧ q.a < 4294967296)
  have HC := Go.Lib.hid hc
  clear g0 ha b1 hm hp hpa hq hqa hc
  unfold pV
  go_enter Try.func44, Try.ntmps44
  go_wp2
  go_region_held3 (fun w' => w'.cell? ⟨W.heap.size, 0, none⟩ = some (.int .u32 (p.a : Int)) ∧ w'.cell? ⟨W.heap.size, 1, none⟩ = some (.int .i64 p.n) ∧ w'.cell? ⟨hb, hi, none⟩ = some (.pointer (some ⟨b, 0, none⟩))) (first | assumption | exact HS.out _ ((Below.refl _ _).drew) | exact HS.out _ HBX.out) (fail)
  have HN1' : Nd ((W1.alloc (.cells #[.int .u32 (p.a : Int), .int .i64 p.n, .int .i64 0, .bool false, .int .i64 0, .pointer none, .pointer none] 64)).drew) (W.heap.size + 1) p 0 false 0 (.pointer none) (.pointer none) := HN1.out
  have HB2 := Go.Lib.hid (show Below W1.heap.size W1 ((W1.alloc (.cells #[.int .u32 (p.a : Int), .int .i64 p.n, .int .i64 0, .bool false, .int .i64 0, .pointer none, .pointer none] 64)).drew) from HBY.out)
  have HSZ2 := Go.Lib.hid (show ((W1.alloc (.cells #[.int .u32 (p.a : Int), .int .i64 p.n, .int .i64 0, .bool false, .int .i64 0, .pointer none, .pointer none] 64)).drew).heap.size = W.heap.size + 2 from HSY.out)
  have HNN := Go.Lib.hid HN1'
  clear HN1' HN1 HBX HBY HSY c0 c1 a0 a1 hW1 s1
  generalize (W1.alloc (.cells #[.int .u32 (p.a : Int), .int .i64 p.n, .int .i64 0, .bool false, .int .i64 0, .pointer none, .pointer none] 64)).drew = w2 at *
  obtain ⟨hp, hpa, hq, hqa⟩ := HP.out
  have hcom := com_any hp hpa hq hqa
  rw [com_cov hp hpa hqa HC.out] at hcom
  have CC := Go.Lib.hid hcom
  unfold pV at CC
  have HW2 := Go.Lib.hid (Pfx.Below.tr HB.out HB2.out)
  have HQ := Go.Lib.hid (fun (W' : World) (h : Below W.heap.size W W') => (⟨cell_at ((h.block b HM.out.1.low).trans HM.out.1) rfl, cell_at ((h.block b HM.out.1.low).trans HM.out.1) rfl⟩ : W'.cell? ⟨b, 0, none⟩ = some (.int .u32 q.a) ∧ W'.cell? ⟨b, 1, none⟩ = some (.int .i64 q.n)))
  have HT := Go.Lib.hid (fun (W' : World) (h : Below w2.heap.size w2 W') => (⟨(HS.out W' (Pfx.Below.tr HB2.out h)).1, (HS.out W' (Pfx.Below.tr HB2.out h)).2.1, HQ.out W' (Pfx.Below.tr HW2.out h)⟩ : W'.cell? ⟨W.heap.size, 0, none⟩ = some (.int .u32 (p.a : Int)) ∧ W'.cell? ⟨W.heap.size, 1, none⟩ = some (.int .i64 p.n) ∧ W'.cell? ⟨b, 0, none⟩ = some (.int .u32 q.a) ∧ W'.cell? ⟨b, 1, none⟩ = some (.int .i64 q.n)))
  have HZ := Go.Lib.hid (fun (W' : World) (h : Below ((w2.alloc (.cells #[.int .u32 0, .int .i64 0] 25)).drew).heap.size ((w2.alloc (.cells #[.int .u32 0, .int .i64 0] 25)).drew) W') => ((h.block w2.heap.size (by simp)).trans (heap_alloc_new w2 _) : W'.heap[w2.heap.size]? = some (.cells #[.int .u32 0, .int .i64 0] 25)))
  have HZB := Go.Lib.hid (show Below w2.heap.size w2 ((w2.alloc (.cells #[.int .u32 0, .int .i64 0] 25)).drew) from ((Below.refl _ _).alloc (Nat.le_refl _) _).drew)
  have HCV := Go.Lib.hid (cov_is hp hq)
  rw [decide_eq_true HC.out] at HCV
  clear hp hpa hq hqa hcom
  go_upto_region 6 with fail
  go_cut [8] from 22 to 28 (fun s8 wx => ∃ C, s8 = .pointer (some ⟨C, 0, none⟩) ∧ Hid (wx.heap[C]? = some (.cells #[.int .u32 (p.a : Int), .int .i64 p.n] 25)) ∧ Hid (Below w2.heap.size w2 wx) ∧ Hid (w2.heap.size ≤ C))
  case first =>
    go_region_held3 (fun w' => w'.cell? ⟨W.heap.size, 0, none⟩ = some (.int .u32 (p.a : Int)) ∧ w'.cell? ⟨W.heap.size, 1, none⟩ = some (.int .i64 p.n) ∧ w'.cell? ⟨b, 0, none⟩ = some (.int .u32 q.a) ∧ w'.cell? ⟨b, 1, none⟩ = some (.int .i64 q.n)) (first | assumption | exact HT.out _ ((Below.refl _ _).drew) | exact HT.out _ HZB.out | exact HT.out _ B3.out | exact HT.out _ B3A.out | exact HT.out _ B3B.out) (first
      | (go_at_call 58; (with_reducible refine (CC.out w2.drew).mono ?_); rintro e w3 ⟨rfl, hb3⟩; have B3 := Go.Lib.hid ((Below.refl w2.heap.size w2).drew.trans (hb3.mono (Below.refl w2.heap.size w2).drew.size)); have B3A := Go.Lib.hid (B3.out.alloc B3.out.size (.cells #[.int .u32 0, .int .i64 0] 25)); have B3B := Go.Lib.hid (B3.out.alloc B3.out.size (.cells #[.int .u32 (p.a : Int), .int .i64 p.n] 25)); clear hb3)
      | (go_at_call 58; (with_reducible refine (CC.out ((w2.alloc (.cells #[.int .u32 0, .int .i64 0] 25)).drew)).mono ?_); rintro e w4 ⟨rfl, hb4⟩; have Z4 := Go.Lib.hid (HZ.out _ hb4); have B3 := Go.Lib.hid (Pfx.Below.tr HZB.out hb4); have z0 := cell_at (i := 0) Z4.out rfl; have z1 := cell_at (i := 1) Z4.out rfl; have f0 := frozen_of_row w4 _ 0 _ _ Z4.out; have f1 := frozen_of_row w4 _ 1 _ _ Z4.out; have B3B := Go.Lib.hid ((B3.out.setCell (p := ⟨w2.heap.size, 0, none⟩) (Nat.le_refl _) (.int .u32 (p.a : Int))).setCell (p := ⟨w2.heap.size, 1, none⟩) (Nat.le_refl _) (.int .i64 p.n)); have H4B := Go.Lib.hid (heap_set (i := 1) (.int .i64 p.n) (heap_set (i := 0) (.int .u32 (p.a : Int)) Z4.out)); clear hb4))
    all_goals (go_wp2_with fail)
    all_goals go_meet
    all_goals (first
      | exact ⟨_, rfl, heap_alloc_new _ _, B3B.out, B3.out.size⟩
      | exact ⟨_, rfl, H4B.out, B3B.out, Nat.le_refl _⟩)
  case rest =>
    obtain ⟨C, rfl, hbox, hlow, hC⟩ := hcut
    have e0 : wc.cell? ⟨C, 0, none⟩ = some (.int .u32 (p.a : Int)) := cell_at hbox.out rfl
    have e1 : wc.cell? ⟨C, 1, none⟩ = some (.int .i64 p.n) := cell_at hbox.out rfl
    obtain ⟨t0, t1, t2, t3⟩ := HT.out wc hlow.out
    have HWC := Go.Lib.hid (Pfx.Below.tr HW2.out hlow.out)
    have HF := Go.Lib.hid (show Nd wc (W.heap.size + 1) p 0 false 0 (.pointer none) (.pointer none) from (hlow.out.block _ (by rw [HSZ2.out]; omega)).trans HNN.out)
    have HO := Go.Lib.hid (show ∀ W' : World, Below W.heap.size W W' → Nd W' b q x h c (ptr s) (ptr t) from fun W' h => (h.block b HM.out.1.low).trans HM.out.1)
    have HLB := Go.Lib.hid HM.out.1.low
    have HWS := Go.Lib.hid (show W.heap.size + 2 ≤ wc.heap.size by have := hlow.out.size; rw [HSZ2.out] at this; exact this)
    clear HC HS HB2 HNN CC HZ HZB HQ HB hbox hC
    clear HT hlow
    rcases sd_two p q with hsd | hsd
    · have CK := kid_any (W := wc) q HF.out ⟨HP.out.2.2.2, good_wf HP.out.2.2.1⟩ (good_len HP.out.1).1 (good_len HP.out.1).2
      rw [hsd] at CK
      have HSD := Go.Lib.hid hsd
      have HCK := Go.Lib.hid CK
      unfold pV at HCK
      clear hsd CK
      go_upto_region 11 with (go_at_call 52; refine HCK.out.mono ?_; rintro e w5 ⟨rfl, hb5⟩; have HF5 := Go.Lib.hid (show Nd w5 (W.heap.size + 1) p 0 false 0 (.pointer none) (.pointer none) from (hb5.block _ (Nat.lt_of_lt_of_le (by omega) HWS.out)).trans HF.out); have H5 := Go.Lib.hid (Pfx.Below.tr HWC.out hb5); have z5 : w5.cell? ⟨W.heap.size + 1, 5, none⟩ = some (.pointer none) := cell_at HF5.out rfl; have f5 := frozen_of_row w5 _ 5 _ _ HF5.out; clear hb5)
      have HF6 := Go.Lib.hid (show Nd (w5.setCell ⟨W.heap.size + 1, 5, none⟩ (.pointer (some ⟨b, 0, none⟩))) (W.heap.size + 1) p 0 false 0 (.pointer (some ⟨b, 0, none⟩)) (.pointer none) from heap_set (i := 5) _ HF5.out)
      have H6 := Go.Lib.hid (H5.out.setCell (p := ⟨W.heap.size + 1, 5, none⟩) (Nat.le_succ _) (.pointer (some ⟨b, 0, none⟩)))
      generalize w5.setCell ⟨W.heap.size + 1, 5, none⟩ (.pointer (some ⟨b, 0, none⟩)) = w6 at *
      clear z5 f5 e0 e1 t0 t1 t2 t3
      have a4 : w6.cell? ⟨b, 4, none⟩ = some (.int .i64 c) := cell_at (HO.out w6 H6.out) rfl
      have z4 : w6.cell? ⟨W.heap.size + 1, 4, none⟩ = some (.int .i64 0) := cell_at HF6.out rfl
      have f4 := frozen_of_row w6 _ 4 _ _ HF6.out
      go_upto_region 12 with fail
      have HF7 := Go.Lib.hid (show Nd (w6.setCell ⟨W.heap.size + 1, 4, none⟩ (.int .i64 c)) (W.heap.size + 1) p 0 false c (.pointer (some ⟨b, 0, none⟩)) (.pointer none) from heap_set (i := 4) _ HF6.out)
      have H7 := Go.Lib.hid (H6.out.setCell (p := ⟨W.heap.size + 1, 4, none⟩) (Nat.le_succ _) (.int .i64 c))
      generalize w6.setCell ⟨W.heap.size + 1, 4, none⟩ (.int .i64 c) = w7 at *
      clear a4 z4 f4
      obtain ⟨a0, a1⟩ := HA.out w7 H7.out
      go_wp2
      go_ret
      have hL : insL (W.heap.size + 1) (W.heap.size + 2) p 0 false (.node b q x h c s t) = .node (W.heap.size + 1) p 0 false c (.node b q x h c s t) .nil := by
        rw [insL_node, HCV.out, HSD.out]; rfl
      have hMt : Mt w7 (.node b q x h c s t) := HM.out.keep (fun k hk => H7.out.block k (HM.out.low k hk))
      exact ⟨W.heap.size + 1, W.heap.size + 2, w7, rfl, Nat.le_succ _, by omega, by omega, H7.out, by rw [hL]; exact ⟨HF7.out, hMt, trivial⟩, by rw [hL]; rfl⟩
    · have CK := kid_any (W := wc) q HF.out ⟨HP.out.2.2.2, good_wf HP.out.2.2.1⟩ (good_len HP.out.1).1 (good_len HP.out.1).2
      rw [hsd] at CK
      have HSD := Go.Lib.hid hsd
      have HCK := Go.Lib.hid CK
      unfold pV at HCK
      clear hsd CK
      go_upto_region 11 with (go_at_call 52; refine HCK.out.mono ?_; rintro e w5 ⟨rfl, hb5⟩; have HF5 := Go.Lib.hid (show Nd w5 (W.heap.size + 1) p 0 false 0 (.pointer none) (.pointer none) from (hb5.block _ (Nat.lt_of_lt_of_le (by omega) HWS.out)).trans HF.out); have H5 := Go.Lib.hid (Pfx.Below.tr HWC.out hb5); have z5 : w5.cell? ⟨W.heap.size + 1, 6, none⟩ = some (.pointer none) := cell_at HF5.out rfl; have f5 := frozen_of_row w5 _ 6 _ _ HF5.out; clear hb5)
      have HF6 := Go.Lib.hid (show Nd (w5.setCell ⟨W.heap.size + 1, 6, none⟩ (.pointer (some ⟨b, 0, none⟩))) (W.heap.size + 1) p 0 false 0 (.pointer none) (.pointer (some ⟨b, 0, none⟩)) from heap_set (i := 6) _ HF5.out)
      have H6 := Go.Lib.hid (H5.out.setCell (p := ⟨W.heap.size + 1, 6, none⟩) (Nat.le_succ _) (.pointer (some ⟨b, 0, none⟩)))
      generalize w5.setCell ⟨W.heap.size + 1, 6, none⟩ (.pointer (some ⟨b, 0, none⟩)) = w6 at *
      clear z5 f5 e0 e1 t0 t1 t2 t3
      have a4 : w6.cell? ⟨b, 4, none⟩ = some (.int .i64 c) := cell_at (HO.out w6 H6.out) rfl
      have z4 : w6.cell? ⟨W.heap.size + 1, 4, none⟩ = some (.int .i64 0) := cell_at HF6.out rfl
      have f4 := frozen_of_row w6 _ 4 _ _ HF6.out
      go_upto_region 12 with fail
      have HF7 := Go.Lib.hid (show Nd (w6.setCell ⟨W.heap.size + 1, 4, none⟩ (.int .i64 c)) (W.heap.size + 1) p 0 false c (.pointer none) (.pointer (some ⟨b, 0, none⟩)) from heap_set (i := 4) _ HF6.out)
      have H7 := Go.Lib.hid (H6.out.setCell (p := ⟨W.heap.size + 1, 4, none⟩) (Nat.le_succ _) (.int .i64 c))
      generalize w6.setCell ⟨W.heap.size + 1, 4, none⟩ (.int .i64 c) = w7 at *
      clear a4 z4 f4
      obtain ⟨a0, a1⟩ := HA.out w7 H7.out
      go_wp2
      go_ret
      have hL : insL (W.heap.size + 1) (W.heap.size + 2) p 0 false (.node b q x h c s t) = .node (W.heap.size + 1) p 0 false c .nil (.node b q x h c s t) := by
        rw [insL_node, HCV.out, HSD.out]; rfl
      have hMt : Mt w7 (.node b q x h c s t) := HM.out.keep (fun k hk => H7.out.block k (HM.out.low k hk))
      exact ⟨W.heap.size + 1, W.heap.size + 2, w7, rfl, Nat.le_succ _, by omega, by omega, H7.out, by rw [hL]; exact ⟨HF7.out, trivial, hMt⟩, by rw [hL]; rfl⟩
set_option maxRecDepth 100000 in
set_option maxHeartbeats 16000000 in
theorem insert_both {W : World} {hb hi : Nat} (p : Pf) {b : Nat} {q : Pf} {x : Int} {h : Bool} {c : Int} {s t : MT} (ha : At W hb hi (.pointer (some ⟨b, 0, none⟩))) (hm : Mt W (.node b q x h c s t)) (hp : goodP p = true) (hpa : p.a < 4294967296) (hq : goodP q = true) (hqa : q.a < 4294967296) (hc : ¬ Cov p q) (hc2 : ¬ Cov q p) : Calls Try.prog 44 #[.pointer (some ⟨hb, hi, none⟩), pV p] W (InsF hb hi p (.node b q x h c s t) W) := by
  obtain ⟨W1, hW1⟩ : ∃ W1, W.alloc (.cells #[.int .u32 (p.a : Int), .int .i64 p.n] 25) = W1 := ⟨_, rfl⟩
  have s1 : W1.heap.size = W.heap.size + 1 := by rw [← hW1]; simp
  have b1 : Below W.heap.size W W1 := by rw [← hW1]; exact below_new _ _
  have g0 : W1.heap[W.heap.size]? = some (.cells #[.int .u32 (p.a : Int), .int .i64 p.n] 25) := by rw [← hW1]; exact heap_alloc_new _ _
  have c0 : W1.cell? ⟨W.heap.size, 0, none⟩ = some (.int .u32 (p.a : Int)) := cell_at g0 rfl
  have c1 : W1.cell? ⟨W.heap.size, 1, none⟩ = some (.int .i64 p.n) := cell_at g0 rfl
  have HB := Go.Lib.hid b1
  have HHB := Go.Lib.hid (block_lt_of_cell ha.1)
  have HA := Go.Lib.hid (fun (W' : World) (h : Below W.heap.size W W') => ha.keep h)
  obtain ⟨a0, a1⟩ := ha.keep b1
  have HS := Go.Lib.hid (fun (W' : World) (h : Below W1.heap.size W1 W') => (⟨(h.cell (p := ⟨W.heap.size, 0, none⟩) (show W.heap.size < W1.heap.size by omega)).trans c0, (h.cell (p := ⟨W.heap.size, 1, none⟩) (show W.heap.size < W1.heap.size by omega)).trans c1, (HA.out W' (Pfx.Below.tr b1 h)).1⟩ : W'.cell? ⟨W.heap.size, 0, none⟩ = some (.int .u32 (p.a : Int)) ∧ W'.cell? ⟨W.heap.size, 1, none⟩ = some (.int .i64 p.n) ∧ W'.cell? ⟨hb, hi, none⟩ = some (.pointer (some ⟨b, 0, none⟩))))
  have HBX := Go.Lib.hid (show Below W1.heap.size W1 (W1.drew.alloc (.cells (ncell p 0 false 0 (.pointer none) (.pointer none)) 64)) from ((Below.refl _ _).drew).alloc (Nat.le_refl _) _)
  have HBY := Go.Lib.hid (show Below W1.heap.size W1 ((W1.alloc (.cells (ncell p 0 false 0 (.pointer none) (.pointer none)) 64)).drew) from ((Below.refl _ _).alloc (Nat.le_refl _) _).drew)
  have HN1 := Go.Lib.hid (show Nd ((W1.alloc (.cells (ncell p 0 false 0 (.pointer none) (.pointer none)) 64)).drew) (W.heap.size + 1) p 0 false 0 (.pointer none) (.pointer none) from by
    rw [← s1]; exact heap_alloc_new _ _)
  have HSY := Go.Lib.hid (show ((W1.alloc (.cells (ncell p 0 false 0 (.pointer none) (.pointer none)) 64)).drew).heap.size = W.heap.size + 2 by show (W1.alloc _).heap.size = _; simp [s1])
  have S1 := Go.Lib.hid s1
  have HM := Go.Lib.hid hm
  have HP := Go.Lib.hid (⟨hp, hpa, hq, hqa⟩ : goodP p = true ∧ p.a < 4294967296 ∧ goodP q = true ∧ q.a < 4294967296)
  have HC := Go.Lib.hid hc
  have HC2 := Go.Lib.hid hc2
  clear g0 ha b1 hm hp hpa hq hqa hc hc2
  unfold pV
  go_enter Try.func44, Try.ntmps44
  go_wp2
  go_region_held3 (fun w' => w'.cell? ⟨W.heap.size, 0, none⟩ = some (.int .u32 (p.a : Int)) ∧ w'.cell? ⟨W.heap.size, 1, none⟩ = some (.int .i64 p.n) ∧ w'.cell? ⟨hb, hi, none⟩ = some (.pointer (some ⟨b, 0, none⟩))) (first | assumption | exact HS.out _ ((Below.refl _ _).drew) | exact HS.out _ HBX.out) (fail)
  have HN1' : Nd ((W1.alloc (.cells #[.int .u32 (p.a : Int), .int .i64 p.n, .int .i64 0, .bool false, .int .i64 0, .pointer none, .pointer none] 64)).drew) (W.heap.size + 1) p 0 false 0 (.pointer none) (.pointer none) := HN1.out
  have HB2 := Go.Lib.hid (show Below W1.heap.size W1 ((W1.alloc (.cells #[.int .u32 (p.a : Int), .int .i64 p.n, .int .i64 0, .bool false, .int .i64 0, .pointer none, .pointer none] 64)).drew) from HBY.out)
  have HSZ2 := Go.Lib.hid (show ((W1.alloc (.cells #[.int .u32 (p.a : Int), .int .i64 p.n, .int .i64 0, .bool false, .int .i64 0, .pointer none, .pointer none] 64)).drew).heap.size = W.heap.size + 2 from HSY.out)
  have HNN := Go.Lib.hid HN1'
  clear HN1' HN1 HBX HBY HSY c0 c1 a0 a1 hW1 s1
  generalize (W1.alloc (.cells #[.int .u32 (p.a : Int), .int .i64 p.n, .int .i64 0, .bool false, .int .i64 0, .pointer none, .pointer none] 64)).drew = w2 at *
  obtain ⟨hp, hpa, hq, hqa⟩ := HP.out
  have hcom := com_any hp hpa hq hqa
  have HCS := Go.Lib.hid (com_sides hp hpa hq hqa HC.out HC2.out)
  obtain ⟨r, hr⟩ : ∃ r, r = comP p q := ⟨_, rfl⟩
  rw [← hr] at hcom HCS
  have HR := Go.Lib.hid hr
  clear hr
  have CC := Go.Lib.hid hcom
  unfold pV at CC
  have HW2 := Go.Lib.hid (Pfx.Below.tr HB.out HB2.out)
  have HQ := Go.Lib.hid (fun (W' : World) (h : Below W.heap.size W W') => (⟨cell_at ((h.block b HM.out.1.low).trans HM.out.1) rfl, cell_at ((h.block b HM.out.1.low).trans HM.out.1) rfl⟩ : W'.cell? ⟨b, 0, none⟩ = some (.int .u32 q.a) ∧ W'.cell? ⟨b, 1, none⟩ = some (.int .i64 q.n)))
  have HT := Go.Lib.hid (fun (W' : World) (h : Below w2.heap.size w2 W') => (⟨(HS.out W' (Pfx.Below.tr HB2.out h)).1, (HS.out W' (Pfx.Below.tr HB2.out h)).2.1, HQ.out W' (Pfx.Below.tr HW2.out h)⟩ : W'.cell? ⟨W.heap.size, 0, none⟩ = some (.int .u32 (p.a : Int)) ∧ W'.cell? ⟨W.heap.size, 1, none⟩ = some (.int .i64 p.n) ∧ W'.cell? ⟨b, 0, none⟩ = some (.int .u32 q.a) ∧ W'.cell? ⟨b, 1, none⟩ = some (.int .i64 q.n)))
  have HZ := Go.Lib.hid (fun (W' : World) (h : Below ((w2.alloc (.cells #[.int .u32 0, .int .i64 0] 25)).drew).heap.size ((w2.alloc (.cells #[.int .u32 0, .int .i64 0] 25)).drew) W') => ((h.block w2.heap.size (by simp)).trans (heap_alloc_new w2 _) : W'.heap[w2.heap.size]? = some (.cells #[.int .u32 0, .int .i64 0] 25)))
  have HZB := Go.Lib.hid (show Below w2.heap.size w2 ((w2.alloc (.cells #[.int .u32 0, .int .i64 0] 25)).drew) from ((Below.refl _ _).alloc (Nat.le_refl _) _).drew)
  have HCV := Go.Lib.hid (cov_is hp hq)
  rw [decide_eq_false HC.out] at HCV
  clear hp hpa hq hqa hcom
  go_upto_region 6 with fail
  go_cut [8] from 22 to 28 (fun s8 wx => ∃ C, s8 = .pointer (some ⟨C, 0, none⟩) ∧ Hid (wx.heap[C]? = some (.cells #[.int .u32 (r.a : Int), .int .i64 r.n] 25)) ∧ Hid (Below w2.heap.size w2 wx) ∧ Hid (w2.heap.size ≤ C))
  case first =>
    go_region_held3 (fun w' => w'.cell? ⟨W.heap.size, 0, none⟩ = some (.int .u32 (p.a : Int)) ∧ w'.cell? ⟨W.heap.size, 1, none⟩ = some (.int .i64 p.n) ∧ w'.cell? ⟨b, 0, none⟩ = some (.int .u32 q.a) ∧ w'.cell? ⟨b, 1, none⟩ = some (.int .i64 q.n)) (first | assumption | exact HT.out _ ((Below.refl _ _).drew) | exact HT.out _ HZB.out | exact HT.out _ B3.out | exact HT.out _ B3A.out | exact HT.out _ B3B.out) (first
      | (go_at_call 58; (with_reducible refine (CC.out w2.drew).mono ?_); rintro e w3 ⟨rfl, hb3⟩; have B3 := Go.Lib.hid ((Below.refl w2.heap.size w2).drew.trans (hb3.mono (Below.refl w2.heap.size w2).drew.size)); have B3A := Go.Lib.hid (B3.out.alloc B3.out.size (.cells #[.int .u32 0, .int .i64 0] 25)); have B3B := Go.Lib.hid (B3.out.alloc B3.out.size (.cells #[.int .u32 (r.a : Int), .int .i64 r.n] 25)); clear hb3)
      | (go_at_call 58; (with_reducible refine (CC.out ((w2.alloc (.cells #[.int .u32 0, .int .i64 0] 25)).drew)).mono ?_); rintro e w4 ⟨rfl, hb4⟩; have Z4 := Go.Lib.hid (HZ.out _ hb4); have B3 := Go.Lib.hid (Pfx.Below.tr HZB.out hb4); have z0 := cell_at (i := 0) Z4.out rfl; have z1 := cell_at (i := 1) Z4.out rfl; have f0 := frozen_of_row w4 _ 0 _ _ Z4.out; have f1 := frozen_of_row w4 _ 1 _ _ Z4.out; have B3B := Go.Lib.hid ((B3.out.setCell (p := ⟨w2.heap.size, 0, none⟩) (Nat.le_refl _) (.int .u32 (r.a : Int))).setCell (p := ⟨w2.heap.size, 1, none⟩) (Nat.le_refl _) (.int .i64 r.n)); have H4B := Go.Lib.hid (heap_set (i := 1) (.int .i64 r.n) (heap_set (i := 0) (.int .u32 (r.a : Int)) Z4.out)); clear hb4))
    all_goals (go_wp2_with fail)
    all_goals go_meet
    all_goals (first
      | exact ⟨_, rfl, heap_alloc_new _ _, B3B.out, B3.out.size⟩
      | exact ⟨_, rfl, H4B.out, B3B.out, Nat.le_refl _⟩)
  case rest =>
    obtain ⟨C, rfl, hbox, hlow, hC⟩ := hcut
    have e0 : wc.cell? ⟨C, 0, none⟩ = some (.int .u32 (r.a : Int)) := cell_at hbox.out rfl
    have e1 : wc.cell? ⟨C, 1, none⟩ = some (.int .i64 r.n) := cell_at hbox.out rfl
    obtain ⟨t0, t1, t2, t3⟩ := HT.out wc hlow.out
    have HWC := Go.Lib.hid (Pfx.Below.tr HW2.out hlow.out)
    have HF := Go.Lib.hid (show Nd wc (W.heap.size + 1) p 0 false 0 (.pointer none) (.pointer none) from (hlow.out.block _ (by rw [HSZ2.out]; omega)).trans HNN.out)
    have HO := Go.Lib.hid (show ∀ W' : World, Below W.heap.size W W' → Nd W' b q x h c (ptr s) (ptr t) from fun W' h => (h.block b HM.out.1.low).trans HM.out.1)
    have HLB := Go.Lib.hid HM.out.1.low
    have HWS := Go.Lib.hid (show W.heap.size + 2 ≤ wc.heap.size by have := hlow.out.size; rw [HSZ2.out] at this; exact this)
    clear HC HS HB2 HNN CC HZ HZB HQ HB hbox hC
    have HLOW := Go.Lib.hid hlow.out
    obtain ⟨hrg, hra, hsp, hsq, hun⟩ := HCS.out
    have y1 : (r.n == p.n) = false := beq_eq_false_iff_ne.2 (by have := hsp.1; omega)
    have HR2 := Go.Lib.hid (⟨hrg, hra⟩ : goodP r = true ∧ r.a < 4294967296)
    have hs1 := sd_bit hsp.1 (good_len HP.out.1).2
    have hs2 := sd_bit hsq.1 (good_len HP.out.2.2.1).2
    have hcase : (sd r p = 0 ∧ sd r q = 1) ∨ (sd r p = 1 ∧ sd r q = 0) := by
      rw [hs1, hs2]
      rcases bit_two r p with h1 | h1 <;> rcases bit_two r q with h2 | h2
      · exact absurd (h1.trans h2.symm) hun
      · exact .inl ⟨h1, h2⟩
      · exact .inr ⟨h1, h2⟩
      · exact absurd (h1.trans h2.symm) hun
    clear hrg hra hsp hsq hun hs1 hs2 hlow
    go_upto_region 9 with fail
    have H8 := Go.Lib.hid (show Below wc.heap.size wc (wc.alloc (.cells #[.int .u32 (r.a : Int), .int .i64 r.n, .int .i64 0, .bool false, .int .i64 0, .pointer none, .pointer none] 64)) from below_new _ _)
    have HT8 := Go.Lib.hid (show Nd (wc.alloc (.cells #[.int .u32 (r.a : Int), .int .i64 r.n, .int .i64 0, .bool false, .int .i64 0, .pointer none, .pointer none] 64)) wc.heap.size r 0 false 0 (.pointer none) (.pointer none) from heap_alloc_new _ _)
    have hs8 : (wc.alloc (.cells #[.int .u32 (r.a : Int), .int .i64 r.n, .int .i64 0, .bool false, .int .i64 0, .pointer none, .pointer none] 64)).heap.size = wc.heap.size + 1 := by simp
    have HS8 := Go.Lib.hid hs8
    generalize wc.alloc (.cells #[.int .u32 (r.a : Int), .int .i64 r.n, .int .i64 0, .bool false, .int .i64 0, .pointer none, .pointer none] 64) = w8 at *
    generalize hb2 : wc.heap.size = b2 at *
    have HF8 := Go.Lib.hid ((H8.out.block _ (by have := HWS.out; omega)).trans HF.out : Nd w8 (W.heap.size + 1) p 0 false 0 (.pointer none) (.pointer none))
    have HW8 := Go.Lib.hid (HWC.out.trans (H8.out.mono (by have := HWS.out; omega)))
    have HX8 := Go.Lib.hid (HLOW.out.trans (H8.out.mono (by have := HLOW.out.size; omega)))
    have HX8' := Go.Lib.hid (show w2.heap.size ≤ b2 by have := HLOW.out.size; omega)
    clear hb2 hs8 e0 e1 t0 t1 t2 t3 y1 HWC HF HLOW
    obtain ⟨t0, t1, t2, t3⟩ := HT.out w8 HX8.out
    rcases hcase with ⟨hi1, hi2⟩ | ⟨hi1, hi2⟩
    · have CKP := kid_any (W := w8) p HT8.out ⟨HP.out.2.1, good_wf HP.out.1⟩ (good_len HR2.out.1).1 (good_len HR2.out.1).2
      rw [hi1] at CKP
      have HI := Go.Lib.hid (⟨hi1, hi2⟩ : sd r p = 0 ∧ sd r q = 1)
      have HCP := Go.Lib.hid CKP
      unfold pV at HCP
      clear CKP hi1 hi2
      go_upto_region 10 with (go_at_call 52; refine HCP.out.mono ?_; rintro e w5 ⟨rfl, hb5⟩; have HT5 := Go.Lib.hid (show Nd w5 b2 r 0 false 0 (.pointer none) (.pointer none) from (hb5.block _ (by rw [HS8.out]; omega)).trans HT8.out); have B5 := Go.Lib.hid hb5; have z5 : w5.cell? ⟨b2, 5, none⟩ = some (.pointer none) := cell_at HT5.out rfl; have f5 := frozen_of_row w5 _ 5 _ _ HT5.out; clear hb5 t0 t1 t2 t3)
      have HT9 := Go.Lib.hid (show Nd (w5.setCell ⟨b2, 5, none⟩ (.pointer (some ⟨W.heap.size + 1, 0, none⟩))) b2 r 0 false 0 (.pointer (some ⟨W.heap.size + 1, 0, none⟩)) (.pointer none) from heap_set (i := 5) _ HT5.out)
      have HF9 := Go.Lib.hid (show Nd (w5.setCell ⟨b2, 5, none⟩ (.pointer (some ⟨W.heap.size + 1, 0, none⟩))) (W.heap.size + 1) p 0 false 0 (.pointer none) (.pointer none) from (set_ne (by have := HWS.out; omega)).trans ((B5.out.block _ (by rw [HS8.out]; have := HWS.out; omega)).trans HF8.out))
      have H9 := Go.Lib.hid ((HW8.out.trans (B5.out.mono HW8.out.size)).setCell (p := ⟨b2, 5, none⟩) (show W.heap.size ≤ b2 by have := HWS.out; omega) (.pointer (some ⟨W.heap.size + 1, 0, none⟩)))
      have HX9 := Go.Lib.hid ((HX8.out.trans (B5.out.mono HX8.out.size)).setCell (p := ⟨b2, 5, none⟩) HX8'.out (.pointer (some ⟨W.heap.size + 1, 0, none⟩)))
      have HS9 := Go.Lib.hid (show b2 < (w5.setCell ⟨b2, 5, none⟩ (.pointer (some ⟨W.heap.size + 1, 0, none⟩))).heap.size by have h1 := HS8.out; have h2 := B5.out.size; simp [World.setCell]; omega)
      generalize w5.setCell ⟨b2, 5, none⟩ (.pointer (some ⟨W.heap.size + 1, 0, none⟩)) = w9 at *
      clear z5 f5 HT5 B5 HF8 HT8
      obtain ⟨t0, t1, t2, t3⟩ := HT.out w9 HX9.out
      have CKQ := kid_any (W := w9) q HT9.out ⟨HP.out.2.2.2, good_wf HP.out.2.2.1⟩ (good_len HR2.out.1).1 (good_len HR2.out.1).2
      rw [HI.out.2] at CKQ
      have HCQ := Go.Lib.hid CKQ
      unfold pV at HCQ
      clear CKQ
      go_upto_region 11 with (go_at_call 52; refine HCQ.out.mono ?_; rintro e w5 ⟨rfl, hb5⟩; have HT5 := Go.Lib.hid ((hb5.block _ HS9.out).trans HT9.out); have B5 := Go.Lib.hid hb5; have z5 : w5.cell? ⟨b2, 6, none⟩ = some (.pointer none) := cell_at HT5.out rfl; have f5 := frozen_of_row w5 _ 6 _ _ HT5.out; clear hb5 t0 t1 t2 t3)
      have HT6 := Go.Lib.hid (show Nd (w5.setCell ⟨b2, 6, none⟩ (.pointer (some ⟨b, 0, none⟩))) b2 r 0 false 0 (.pointer (some ⟨W.heap.size + 1, 0, none⟩)) (.pointer (some ⟨b, 0, none⟩)) from heap_set (i := 6) _ HT5.out)
      have HF6 := Go.Lib.hid (show Nd (w5.setCell ⟨b2, 6, none⟩ (.pointer (some ⟨b, 0, none⟩))) (W.heap.size + 1) p 0 false 0 (.pointer none) (.pointer none) from (set_ne (by have := HWS.out; omega)).trans ((B5.out.block _ (by have := HS9.out; have := HWS.out; omega)).trans HF9.out))
      have H6 := Go.Lib.hid ((H9.out.trans (B5.out.mono H9.out.size)).setCell (p := ⟨b2, 6, none⟩) (show W.heap.size ≤ b2 by have := HWS.out; omega) (.pointer (some ⟨b, 0, none⟩)))
      generalize w5.setCell ⟨b2, 6, none⟩ (.pointer (some ⟨b, 0, none⟩)) = w6 at *
      clear z5 f5
      have a4 : w6.cell? ⟨b, 4, none⟩ = some (.int .i64 c) := cell_at (HO.out w6 H6.out) rfl
      have z4 : w6.cell? ⟨b2, 4, none⟩ = some (.int .i64 0) := cell_at HT6.out rfl
      have f4 := frozen_of_row w6 _ 4 _ _ HT6.out
      go_upto_region 12 with fail
      have HT7 := Go.Lib.hid (show Nd (w6.setCell ⟨b2, 4, none⟩ (.int .i64 c)) b2 r 0 false c (.pointer (some ⟨W.heap.size + 1, 0, none⟩)) (.pointer (some ⟨b, 0, none⟩)) from heap_set (i := 4) _ HT6.out)
      have HF7 := Go.Lib.hid (show Nd (w6.setCell ⟨b2, 4, none⟩ (.int .i64 c)) (W.heap.size + 1) p 0 false 0 (.pointer none) (.pointer none) from (set_ne (by have := HWS.out; omega)).trans HF6.out)
      have H7 := Go.Lib.hid (H6.out.setCell (p := ⟨b2, 4, none⟩) (show W.heap.size ≤ b2 by have := HWS.out; omega) (.int .i64 c))
      generalize w6.setCell ⟨b2, 4, none⟩ (.int .i64 c) = w7 at *
      clear a4 z4 f4
      obtain ⟨a0, a1⟩ := HA.out w7 H7.out
      go_wp2
      go_ret
      have hL : insL (W.heap.size + 1) b2 p 0 false (.node b q x h c s t) = .node b2 r 0 false c (.node (W.heap.size + 1) p 0 false 0 .nil .nil) (.node b q x h c s t) := by
        rw [insL_node, HCV.out, ← HR.out, HI.out.1]; rfl
      have hMt : Mt w7 (.node b q x h c s t) := HM.out.keep (fun k hk => H7.out.block k (HM.out.low k hk))
      have hFt : Mt w7 (.node (W.heap.size + 1) p 0 false 0 .nil .nil) := ⟨HF7.out, trivial, trivial⟩
      exact ⟨W.heap.size + 1, b2, w7, rfl, Nat.le_succ _, by have := HWS.out; omega, by have := HWS.out; omega, H7.out, by rw [hL]; exact ⟨HT7.out, hFt, hMt⟩, by rw [hL]; rfl⟩
    · have CKP := kid_any (W := w8) p HT8.out ⟨HP.out.2.1, good_wf HP.out.1⟩ (good_len HR2.out.1).1 (good_len HR2.out.1).2
      rw [hi1] at CKP
      have HI := Go.Lib.hid (⟨hi1, hi2⟩ : sd r p = 1 ∧ sd r q = 0)
      have HCP := Go.Lib.hid CKP
      unfold pV at HCP
      clear CKP hi1 hi2
      go_upto_region 10 with (go_at_call 52; refine HCP.out.mono ?_; rintro e w5 ⟨rfl, hb5⟩; have HT5 := Go.Lib.hid (show Nd w5 b2 r 0 false 0 (.pointer none) (.pointer none) from (hb5.block _ (by rw [HS8.out]; omega)).trans HT8.out); have B5 := Go.Lib.hid hb5; have z5 : w5.cell? ⟨b2, 6, none⟩ = some (.pointer none) := cell_at HT5.out rfl; have f5 := frozen_of_row w5 _ 6 _ _ HT5.out; clear hb5 t0 t1 t2 t3)
      have HT9 := Go.Lib.hid (show Nd (w5.setCell ⟨b2, 6, none⟩ (.pointer (some ⟨W.heap.size + 1, 0, none⟩))) b2 r 0 false 0 (.pointer none) (.pointer (some ⟨W.heap.size + 1, 0, none⟩)) from heap_set (i := 6) _ HT5.out)
      have HF9 := Go.Lib.hid (show Nd (w5.setCell ⟨b2, 6, none⟩ (.pointer (some ⟨W.heap.size + 1, 0, none⟩))) (W.heap.size + 1) p 0 false 0 (.pointer none) (.pointer none) from (set_ne (by have := HWS.out; omega)).trans ((B5.out.block _ (by rw [HS8.out]; have := HWS.out; omega)).trans HF8.out))
      have H9 := Go.Lib.hid ((HW8.out.trans (B5.out.mono HW8.out.size)).setCell (p := ⟨b2, 6, none⟩) (show W.heap.size ≤ b2 by have := HWS.out; omega) (.pointer (some ⟨W.heap.size + 1, 0, none⟩)))
      have HX9 := Go.Lib.hid ((HX8.out.trans (B5.out.mono HX8.out.size)).setCell (p := ⟨b2, 6, none⟩) HX8'.out (.pointer (some ⟨W.heap.size + 1, 0, none⟩)))
      have HS9 := Go.Lib.hid (show b2 < (w5.setCell ⟨b2, 6, none⟩ (.pointer (some ⟨W.heap.size + 1, 0, none⟩))).heap.size by have h1 := HS8.out; have h2 := B5.out.size; simp [World.setCell]; omega)
      generalize w5.setCell ⟨b2, 6, none⟩ (.pointer (some ⟨W.heap.size + 1, 0, none⟩)) = w9 at *
      clear z5 f5 HT5 B5 HF8 HT8
      obtain ⟨t0, t1, t2, t3⟩ := HT.out w9 HX9.out
      have CKQ := kid_any (W := w9) q HT9.out ⟨HP.out.2.2.2, good_wf HP.out.2.2.1⟩ (good_len HR2.out.1).1 (good_len HR2.out.1).2
      rw [HI.out.2] at CKQ
      have HCQ := Go.Lib.hid CKQ
      unfold pV at HCQ
      clear CKQ
      go_upto_region 11 with (go_at_call 52; refine HCQ.out.mono ?_; rintro e w5 ⟨rfl, hb5⟩; have HT5 := Go.Lib.hid ((hb5.block _ HS9.out).trans HT9.out); have B5 := Go.Lib.hid hb5; have z5 : w5.cell? ⟨b2, 5, none⟩ = some (.pointer none) := cell_at HT5.out rfl; have f5 := frozen_of_row w5 _ 5 _ _ HT5.out; clear hb5 t0 t1 t2 t3)
      have HT6 := Go.Lib.hid (show Nd (w5.setCell ⟨b2, 5, none⟩ (.pointer (some ⟨b, 0, none⟩))) b2 r 0 false 0 (.pointer (some ⟨b, 0, none⟩)) (.pointer (some ⟨W.heap.size + 1, 0, none⟩)) from heap_set (i := 5) _ HT5.out)
      have HF6 := Go.Lib.hid (show Nd (w5.setCell ⟨b2, 5, none⟩ (.pointer (some ⟨b, 0, none⟩))) (W.heap.size + 1) p 0 false 0 (.pointer none) (.pointer none) from (set_ne (by have := HWS.out; omega)).trans ((B5.out.block _ (by have := HS9.out; have := HWS.out; omega)).trans HF9.out))
      have H6 := Go.Lib.hid ((H9.out.trans (B5.out.mono H9.out.size)).setCell (p := ⟨b2, 5, none⟩) (show W.heap.size ≤ b2 by have := HWS.out; omega) (.pointer (some ⟨b, 0, none⟩)))
      generalize w5.setCell ⟨b2, 5, none⟩ (.pointer (some ⟨b, 0, none⟩)) = w6 at *
      clear z5 f5
      have a4 : w6.cell? ⟨b, 4, none⟩ = some (.int .i64 c) := cell_at (HO.out w6 H6.out) rfl
      have z4 : w6.cell? ⟨b2, 4, none⟩ = some (.int .i64 0) := cell_at HT6.out rfl
      have f4 := frozen_of_row w6 _ 4 _ _ HT6.out
      go_upto_region 12 with fail
      have HT7 := Go.Lib.hid (show Nd (w6.setCell ⟨b2, 4, none⟩ (.int .i64 c)) b2 r 0 false c (.pointer (some ⟨b, 0, none⟩)) (.pointer (some ⟨W.heap.size + 1, 0, none⟩)) from heap_set (i := 4) _ HT6.out)
      have HF7 := Go.Lib.hid (show Nd (w6.setCell ⟨b2, 4, none⟩ (.int .i64 c)) (W.heap.size + 1) p 0 false 0 (.pointer none) (.pointer none) from (set_ne (by have := HWS.out; omega)).trans HF6.out)
      have H7 := Go.Lib.hid (H6.out.setCell (p := ⟨b2, 4, none⟩) (show W.heap.size ≤ b2 by have := HWS.out; omega) (.int .i64 c))
      generalize w6.setCell ⟨b2, 4, none⟩ (.int .i64 c) = w7 at *
      clear a4 z4 f4
      obtain ⟨a0, a1⟩ := HA.out w7 H7.out
      go_wp2
      go_ret
      have hL : insL (W.heap.size + 1) b2 p 0 false (.node b q x h c s t) = .node b2 r 0 false c (.node b q x h c s t) (.node (W.heap.size + 1) p 0 false 0 .nil .nil) := by
        rw [insL_node, HCV.out, ← HR.out, HI.out.1]; rfl
      have hMt : Mt w7 (.node b q x h c s t) := HM.out.keep (fun k hk => H7.out.block k (HM.out.low k hk))
      have hFt : Mt w7 (.node (W.heap.size + 1) p 0 false 0 .nil .nil) := ⟨HF7.out, trivial, trivial⟩
      exact ⟨W.heap.size + 1, b2, w7, rfl, Nat.le_succ _, by have := HWS.out; omega, by have := HWS.out; omega, H7.out, by rw [hL]; exact ⟨HT7.out, hMt, hFt⟩, by rw [hL]; rfl⟩
end Go.Proofs.Ytpcahgnibdampaa.Tri
