/- The contracts of the functions within the trie's Above, Below and All: a prefix is appended to a list in a box. -/
import Derived.Test.YtpcahgnibdampaaP12
import Derived.Test.YtpcahgnibdampaaP18
import Derived.Test.YtpcahgnibdampaaP15
import Derived.Outline
import Derived.Deep.Cut
import Derived.Laws.Tables
import Derived.BigQuiet
import Derived.Deep.RegionHeld3
import Derived.Lib.QuietBelow
namespace Go.Proofs.Ytpcahgnibdampaa.Tri
open Go.RowKit Mem PR Pfx Oct
def Lst (W : World) (bl base : Nat) (v : Value) (l : List Pf) : Prop :=
  W.heap[bl]? = some (.cells #[v] 41) ∧ W.ownsRow base 25 2 v l.length (pcells l)
def Pushed (W : World) (bl base : Nat) (v : Value) (l : List Pf) (e : Ending) (W' : World) : Prop :=
  e = .returned (.tuple #[]) ∧ ∃ v', Lst W' bl base v' l ∧ v'.ownBlock ≠ some bl ∧ (∀ k, v'.ownBlock = some k → v.ownBlock = some k ∨ W.heap.size ≤ k) ∧ W.heap.size ≤ W'.heap.size ∧ W'.os = W.os ∧ W'.tape = W.tape ∧ W'.output = W.output ∧ ∀ k, k < W.heap.size → k ≠ bl → v.ownBlock ≠ some k → W'.heap[k]? = W.heap[k]?
theorem row_slice {W : World} {base : Nat} {t : TypeId} {v : Value} {l : List Pf} (h : W.ownsRow base t 2 v l.length (pcells l)) : ∃ A c, v = .slice A l.length c := by
  obtain ⟨A, c, e, -⟩ := (Row.of_own h).2
  exact ⟨A, c, e⟩
structure Kpt (bl : Nat) (v : Value) (W W' : World) : Prop where
  size : W.heap.size ≤ W'.heap.size
  os : W'.os = W.os
  tape : W'.tape = W.tape
  output : W'.output = W.output
  block : ∀ k, k < W.heap.size → k ≠ bl → v.ownBlock ≠ some k → W'.heap[k]? = W.heap[k]?
theorem Kpt.of {bl : Nat} {v : Value} {W W' : World} (h : Below W.heap.size W W') : Kpt bl v W W' := ⟨h.size, h.os, h.tape, h.output, fun k hk _ _ => h.block k hk⟩
theorem Kpt.grown {bl : Nat} {v : Value} {W W1 W2 : World} {base : Nat} (h : Kpt bl v W W1) (hg : W1.grownBy W2 v.ownBlock) (hb : Below base W1 W2) : Kpt bl v W W2 :=
  ⟨Nat.le_trans h.size hb.size, hb.os.trans h.os, hb.tape.trans h.tape, hb.output.trans h.output, fun k hk h1 h2 => (hg.block k (Nat.lt_of_lt_of_le hk h.size) h2.symm).trans (h.block k hk h1 h2)⟩
theorem Kpt.set {bl : Nat} {v u : Value} {W W1 : World} (h : Kpt bl v W W1) : Kpt bl v W (W1.setCell ⟨bl, 0, none⟩ u) :=
  ⟨by simpa [World.setCell] using h.size, h.os, h.tape, h.output, fun k hk h1 h2 => (set_ne h1).trans (h.block k hk h1 h2)⟩
theorem pushed_same {W : World} {bl base : Nat} {v : Value} {l : List Pf} (hL : Lst W bl base v l) (hbl : v.ownBlock ≠ some bl) : Pushed W bl base v l (.returned (.tuple #[])) W :=
  ⟨rfl, v, hL, hbl, fun _ hk => .inl hk, Nat.le_refl _, rfl, rfl, rfl, fun _ _ _ _ => rfl⟩
theorem pushed_end {W W1 w4 : World} {bl base m c4 : Nat} {A A4 : Option Addr} {l : List Pf} {q : Pf} (hbl : (Value.slice A l.length m).ownBlock ≠ some bl) (hb : Below W.heap.size W W1) (hbs : bl < W.heap.size) (hk : Kpt bl (.slice A l.length m) W w4)
    (hg : w4.heap[bl]? = some (.cells #[.slice A l.length m] 41)) (ho : w4.ownsRow base 25 2 (.slice A4 (l.length + 1) c4) (l.length + 1) (pcells l ++ pcells [q])) (ht : (Value.slice A4 (l.length + 1) c4).ownBlock = (Value.slice A l.length m).ownBlock ∨ (Value.slice A4 (l.length + 1) c4).ownBlock = some W1.heap.size) :
    Pushed W bl base (.slice A l.length m) (l ++ [q]) (.returned (.tuple #[])) (w4.setCell ⟨bl, 0, none⟩ (.slice A4 (l.length + 1) c4)) := by
  have hne : (Value.slice A4 (l.length + 1) c4).ownBlock ≠ some bl := by
    rcases ht with h | h
    · rw [h]; exact hbl
    · rw [h]; intro e; injection e with e; have := hb.size; omega
  refine ⟨rfl, .slice A4 (l.length + 1) c4, ⟨heap_set (i := 0) _ hg, ?_⟩, hne, ?_, hk.set.size, hk.set.os, hk.set.tape, hk.set.output, hk.set.block⟩
  · have h2 : (l ++ [q]).length = l.length + 1 := by simp
    rw [h2, pcells_append]
    exact ownsRow_setCell_other ho hne _
  · intro k hk
    rcases ht with h | h
    · exact .inl (h ▸ hk)
    · right; rw [h] at hk; injection hk with hk; have := hb.size; omega
theorem Kpt.trans {bl : Nat} {v : Value} {a b c : World} (h : Kpt bl v a b) (k : Kpt bl v b c) : Kpt bl v a c :=
  ⟨Nat.le_trans h.size k.size, k.os.trans h.os, k.tape.trans h.tape, k.output.trans h.output, fun j hj h1 h2 => (k.block j (Nat.lt_of_lt_of_le hj h.size) h1 h2).trans (h.block j hj h1 h2)⟩
theorem Pushed.lift {W W1 W' : World} {bl base : Nat} {v : Value} {l : List Pf} {e : Ending} (h : Pushed W1 bl base v l e W') (hk : Kpt bl v W W1) : Pushed W bl base v l e W' := by
  obtain ⟨h1, v', h2, h3, h4, h5, h6, h7, h8, h9⟩ := h
  exact ⟨h1, v', h2, h3, fun k e => (h4 k e).imp_right (fun h => Nat.le_trans hk.size h), Nat.le_trans hk.size h5, h6.trans hk.os, h7.trans hk.tape, h8.trans hk.output, fun j hj a1 a2 => (h9 j (Nat.lt_of_lt_of_le hj hk.size) a1 a2).trans (hk.block j hj a1 a2)⟩
theorem pushed_kept {W W' : World} {bl base : Nat} {v : Value} {l : List Pf} (hL : Lst W bl base v l) (hbl : v.ownBlock ≠ some bl) (hb : Below W.heap.size W W') : Pushed W bl base v l (.returned (.tuple #[])) W' :=
  (pushed_same (W := W') ⟨(hb.block bl (block_lt_of_cell (cell_at (i := 0) hL.1 rfl))).trans hL.1, own_keep hL.2 hb⟩ hbl).lift (Kpt.of hb)
def shownP (q p : Pf) (h : Bool) : List Pf := if h && decide (q ≠ p) then [q] else []
theorem Kpt.drew {bl : Nat} {v : Value} {W W1 : World} (h : Kpt bl v W W1) : Kpt bl v W W1.drew := ⟨h.size, h.os, h.tape, h.output, h.block⟩
set_option maxRecDepth 100000 in
set_option maxHeartbeats 4000000 in
theorem all1_any {W : World} {b bl base : Nat} {q : Pf} {x : Int} {h : Bool} {c : Int} {k0 k1 v : Value} {l : List Pf} (hn : Nd W b q x h c k0 k1) (hL : Lst W bl base v l) (hbl : v.ownBlock ≠ some bl) (hb1 : b ≠ bl) (hb2 : v.ownBlock ≠ some b) (hbase : base ≤ W.heap.size) (hll : l.length ≤ 1000) :
    Calls Try.prog 39 #[.pointer (some ⟨b, 0, none⟩), .pointer (some ⟨bl, 0, none⟩)] W (Pushed W bl base v (if h then l ++ [q] else l)) := by
  obtain ⟨i0, E0⟩ := elemP
  obtain ⟨c0, c1, -, c3, -⟩ := hn.cells
  have HS := Go.Lib.hid (fun (W' : World) (hk : Kpt bl v W W') => (⟨cell_at ((hk.block b hn.low hb1 hb2).trans hn) rfl, cell_at ((hk.block b hn.low hb1 hb2).trans hn) rfl⟩ : W'.cell? ⟨b, 0, none⟩ = some (.int .u32 q.a) ∧ W'.cell? ⟨b, 1, none⟩ = some (.int .i64 q.n)))
  have HL := Go.Lib.hid hL
  have HBL := Go.Lib.hid hbl
  have e0 : W.cell? ⟨bl, 0, none⟩ = some v := cell_at (i := 0) hL.1 rfl
  have f0 := frozen_of_row W bl 0 _ _ hL.1
  have hbs : bl < W.heap.size := block_lt_of_cell e0
  obtain ⟨A, m, rfl⟩ := row_slice hL.2
  clear hn hL hbl hb1 hb2
  cases h with
  | false =>
    go_enter Try.func39, Try.ntmps39
    go_wp2
    refine bodyPost_end (v := .tuple #[]) (by simp [results, Try.results39, go_sem]) rfl ?_
    exact pushed_same HL.out HBL.out
  | true =>
    have KD := Go.Lib.hid (Kpt.of (bl := bl) (v := .slice A l.length m) ((Below.refl W.heap.size W).drew))
    have HB1 := Go.Lib.hid (show Below W.heap.size W (W.drew.alloc (.cells #[.int .u32 (q.a : Int), .int .i64 q.n] 25)) from ((Below.refl _ _).drew).alloc (Nat.le_refl _) _)
    have KA := Go.Lib.hid (Kpt.of (bl := bl) (v := .slice A l.length m) HB1.out)
    have O1 := Go.Lib.hid (own_keep HL.out.2 HB1.out)
    have R1 := Go.Lib.hid (show (W.drew.alloc (.cells #[.int .u32 (q.a : Int), .int .i64 q.n] 25)).heap[bl]? = some (.cells #[.slice A l.length m] 41) from (HB1.out.block bl hbs).trans HL.out.1)
    have eA := (HB1.out.cell (p := ⟨bl, 0, none⟩) hbs).trans e0
    go_enter Try.func39, Try.ntmps39
    go_wp2
    refine wp_region_noPanic ?_
    refine wp_region_held_drew (S := fun w' => w'.cell? ⟨b, 0, none⟩ = some (.int .u32 q.a) ∧ w'.cell? ⟨b, 1, none⟩ = some (.int .i64 q.n)) (by kernel_rfl) (HS.out _ KD.out) (fun hHeld => ?_)
    refine Take.tk 1 8 hHeld ?_
    refine Take.tk 2 9 hHeld ?_
    try simp only [Act.put, Take.nm]
    refine Take.tk 3 10 hHeld ?_
    refine Take.tk 4 11 hHeld ?_
    try simp only [Act.put, Take.nm]
    refine wpAnyH_ready (rs := [0, 5]) (by kernel_rfl) (by simp) ?_
    refine AllReadyH.cons (o := _) (by rfl) (fun K hK => ?_) (AllReadyH.cons (o := _) (by rfl) (fun K hK => ?_) AllReadyH.nil)
    · go_simp
      refine hK.out _ _ hHeld (fun h1 => ?_)
      clear hK K
      try simp only [Act.put, Take.nm]
      refine wpAnyH_ready (rs := [5]) (by kernel_rfl) (by simp) ?_
      refine AllReadyH.cons (o := _) (by rfl) (fun K hK => ?_) AllReadyH.nil
      go_simp
      refine hK.out _ _ (HS.out _ KA.out) (fun h2 => ?_)
      clear hK K
      try simp only [Act.put, Take.nm]
      refine wpAnyH_ready (rs := [6]) (by kernel_rfl) (by simp) ?_
      refine AllReadyH.cons (o := _) (by rfl) (fun K hK => ?_) AllReadyH.nil
      refine step_append_row (by rfl) (.tmp 7) (.tmp 12) (by rfl) E0 base _ l.length (pcells l) (by rfl) O1.out _ 1 (pcells [q]) (by rfl) (one_new2 _ _ _) (ones_p _) (by unfold maxLen; omega) (by omega) (Nat.le_trans hbase HB1.out.size) (l.length + 1) rfl ?_
      intro A4 c4 w4 hown4 hg4 hat4 hb4
      have K4 := Go.Lib.hid (KA.out.grown hg4 hb4)
      have g4 : w4.heap[bl]? = some (.cells #[.slice A l.length m] 41) := (hg4.block bl (Nat.lt_of_lt_of_le hbs HB1.out.size) HBL.out.symm).trans R1.out
      have e4 : w4.cell? ⟨bl, 0, none⟩ = some (.slice A l.length m) := cell_at g4 rfl
      have f4 := frozen_of_row w4 bl 0 _ _ g4
      have O4 := Go.Lib.hid hown4
      have T4 := Go.Lib.hid hat4
      have G4 := Go.Lib.hid g4
      clear hown4 hg4 hb4 hat4 g4
      refine hK.out _ _ (HS.out _ K4.out) (fun h3 => ?_)
      clear hK K
      try simp only [Act.put, Take.nm]
      refine wpAnyH_ready (rs := [7]) (by kernel_rfl) (by simp) ?_
      refine AllReadyH.cons (o := _) (by rfl) (fun K hK => ?_) AllReadyH.nil
      go_simp
      refine hK.out _ _ (HS.out _ K4.out.set) (fun h4 => ?_)
      clear hK K
      try simp only [Act.put, Take.nm]
      refine wpAnyH_done (by kernel_rfl) ?_ _
      refine NoPanic.normal ?_
      (try go_wp2)
      refine bodyPost_end (v := .tuple #[]) (by simp [results, Try.results39, go_sem]) rfl ?_
      exact pushed_end HBL.out HB1.out hbs K4.out G4.out O4.out T4.out
    · go_simp
      refine hK.out _ _ (HS.out _ KA.out) (fun h1 => ?_)
      clear hK K
      try simp only [Act.put, Take.nm]
      refine wpAnyH_ready (rs := [0]) (by kernel_rfl) (by simp) ?_
      refine AllReadyH.cons (o := _) (by rfl) (fun K hK => ?_) AllReadyH.nil
      go_simp
      refine hK.out _ _ (HS.out _ KA.out) (fun h2 => ?_)
      clear hK K
      try simp only [Act.put, Take.nm]
      refine wpAnyH_ready (rs := [6]) (by kernel_rfl) (by simp) ?_
      refine AllReadyH.cons (o := _) (by rfl) (fun K hK => ?_) AllReadyH.nil
      refine step_append_row (by rfl) (.tmp 7) (.tmp 12) (by rfl) E0 base _ l.length (pcells l) (by rfl) O1.out _ 1 (pcells [q]) (by rfl) (one_new2 _ _ _) (ones_p _) (by unfold maxLen; omega) (by omega) (Nat.le_trans hbase HB1.out.size) (l.length + 1) rfl ?_
      intro A4 c4 w4 hown4 hg4 hat4 hb4
      have K4 := Go.Lib.hid (KA.out.grown hg4 hb4)
      have g4 : w4.heap[bl]? = some (.cells #[.slice A l.length m] 41) := (hg4.block bl (Nat.lt_of_lt_of_le hbs HB1.out.size) HBL.out.symm).trans R1.out
      have e4 : w4.cell? ⟨bl, 0, none⟩ = some (.slice A l.length m) := cell_at g4 rfl
      have f4 := frozen_of_row w4 bl 0 _ _ g4
      have O4 := Go.Lib.hid hown4
      have T4 := Go.Lib.hid hat4
      have G4 := Go.Lib.hid g4
      clear hown4 hg4 hb4 hat4 g4
      refine hK.out _ _ (HS.out _ K4.out) (fun h3 => ?_)
      clear hK K
      try simp only [Act.put, Take.nm]
      refine wpAnyH_ready (rs := [7]) (by kernel_rfl) (by simp) ?_
      refine AllReadyH.cons (o := _) (by rfl) (fun K hK => ?_) AllReadyH.nil
      go_simp
      refine hK.out _ _ (HS.out _ K4.out.set) (fun h4 => ?_)
      clear hK K
      try simp only [Act.put, Take.nm]
      refine wpAnyH_done (by kernel_rfl) ?_ _
      refine NoPanic.normal ?_
      (try go_wp2)
      refine bodyPost_end (v := .tuple #[]) (by simp [results, Try.results39, go_sem]) rfl ?_
      exact pushed_end HBL.out HB1.out hbs K4.out G4.out O4.out T4.out
set_option maxRecDepth 100000 in
set_option maxHeartbeats 4000000 in
theorem above1_any {W : World} {b bl bp base : Nat} {q : Pf} {x : Int} {h : Bool} {c : Int} {k0 k1 v : Value} {l : List Pf} (p : Pf) (hn : Nd W b q x h c k0 k1) (hbp : W.heap[bp]? = some (.cells #[.int .u32 (p.a : Int), .int .i64 p.n] 25)) (hL : Lst W bl base v l) (hbl : v.ownBlock ≠ some bl) (hb1 : b ≠ bl) (hb2 : v.ownBlock ≠ some b) (hbase : base ≤ W.heap.size) (hll : l.length ≤ 1000) :
    Calls Try.prog 35 #[.pointer (some ⟨b, 0, none⟩), .pointer (some ⟨bp, 0, none⟩), .pointer (some ⟨bl, 0, none⟩)] W (Pushed W bl base v (l ++ shownP q p h)) := by
  obtain ⟨i0, E0⟩ := elemP
  obtain ⟨c0, c1, -, c3, -⟩ := hn.cells
  have p0 : W.cell? ⟨bp, 0, none⟩ = some (.int .u32 (p.a : Int)) := cell_at (i := 0) hbp rfl
  have p1 : W.cell? ⟨bp, 1, none⟩ = some (.int .i64 p.n) := cell_at (i := 1) hbp rfl
  have HS0 := Go.Lib.hid (fun (W' : World) (hk : Kpt bl v W W') => (⟨cell_at ((hk.block b hn.low hb1 hb2).trans hn) rfl, cell_at ((hk.block b hn.low hb1 hb2).trans hn) rfl⟩ : W'.cell? ⟨b, 0, none⟩ = some (.int .u32 q.a) ∧ W'.cell? ⟨b, 1, none⟩ = some (.int .i64 q.n)))
  have HL0 := Go.Lib.hid hL
  have HBL := Go.Lib.hid hbl
  have e00 : W.cell? ⟨bl, 0, none⟩ = some v := cell_at (i := 0) hL.1 rfl
  have hbs0 : bl < W.heap.size := block_lt_of_cell e00
  obtain ⟨A, m, rfl⟩ := row_slice hL.2
  have k0' := cell_regrown c0
  have k1' := cell_regrown c1
  have k2' := cell_regrown c3
  have k3' := cell_regrown p0
  have k4' := cell_regrown p1
  clear hn hL hbl hb1 hb2 hbp
  cases h with
  | false =>
    go_enter Try.func35, Try.ntmps35
    go_wp2_with fail
    refine wp_region_quiet_below (by kernel_rfl) (by kernel_rfl) ?_
    repeat (first | go_big_quiet_step (fail) | quiet_step (fail))
    refine wpQuiet_nil ?_
    intro _ hw'
    obtain ⟨⟨dq, osq⟩, hw''⟩ := hw'
    subst hw''
    go_wp2
    refine bodyPost_end (v := .tuple #[]) (by simp [results, Try.results35, go_sem]) rfl ?_
    rw [show l ++ shownP q p false = l by simp [shownP]]
    exact pushed_kept HL0.out HBL.out (below_regrown W dq osq)
  | true =>
    by_cases he : q = p
    · subst he
      go_enter Try.func35, Try.ntmps35
      go_wp2_with fail
      refine wp_region_quiet_below (by kernel_rfl) (by kernel_rfl) ?_
      repeat (first | go_big_quiet_step (fail) | quiet_step (fail))
      refine wpQuiet_nil ?_
      intro _ hw'
      obtain ⟨⟨dq, osq⟩, hw''⟩ := hw'
      subst hw''
      go_wp2
      refine bodyPost_end (v := .tuple #[]) (by simp [results, Try.results35, go_sem]) rfl ?_
      rw [show l ++ shownP q q true = l by simp [shownP]]
      exact pushed_kept HL0.out HBL.out (below_regrown W dq osq)
    · have HE := Go.Lib.hid (show l ++ shownP q p true = l ++ [q] by simp [shownP, he])
      have hap := pf_apart he
      obtain ⟨qa, qn⟩ := q
      obtain ⟨pa, pn⟩ := p
      dsimp only at *
      clear he
      rcases hap with y1 | ⟨rfl, y1⟩
      all_goals
        go_enter Try.func35, Try.ntmps35
        go_wp2_with fail
        refine wp_region_quiet_below (by kernel_rfl) (by kernel_rfl) ?_
        repeat (first | go_big_quiet_step (fail) | quiet_step (fail))
        refine wpQuiet_nil ?_
        intro _ hw'
        obtain ⟨⟨dq, osq⟩, hw''⟩ := hw'
        subst hw''
        have HQ := Go.Lib.hid (below_regrown W dq osq)
        have KQ := Go.Lib.hid (Kpt.of (bl := bl) (v := .slice A l.length m) HQ.out)
        have HL := Go.Lib.hid (show Lst (Go.Sort.grow (redrawn W dq) osq) bl base (.slice A l.length m) l from ⟨(HQ.out.block bl hbs0).trans HL0.out.1, own_keep HL0.out.2 HQ.out⟩)
        have HS := Go.Lib.hid (fun (W' : World) (hk : Kpt bl (.slice A l.length m) (Go.Sort.grow (redrawn W dq) osq) W') => HS0.out W' (KQ.out.trans hk))
        have hbs := Nat.lt_of_lt_of_le hbs0 HQ.out.size
        have hbase2 := Nat.le_trans hbase HQ.out.size
        have hlift := Go.Lib.hid (fun e W' (h : Pushed (Go.Sort.grow (redrawn W dq) osq) bl base (.slice A l.length m) (l ++ [⟨qa, qn⟩]) e W') => h.lift KQ.out)
        generalize Go.Sort.grow (redrawn W dq) osq = w2 at *
        clear k0' k1' k2' k3' k4' c0 c1 c3 p0 p1 e00 hbase hbs0
        have hbase := hbase2
        clear hbase2
        obtain ⟨c0, c1⟩ := HS.out _ (Kpt.of (Below.refl _ _))
        have e0 : w2.cell? ⟨bl, 0, none⟩ = some (.slice A l.length m) := cell_at (i := 0) HL.out.1 rfl
        have f0 := frozen_of_row w2 bl 0 _ _ HL.out.1
        have KD := Go.Lib.hid (Kpt.of (bl := bl) (v := .slice A l.length m) ((Below.refl w2.heap.size w2).drew))
        have HB1 := Go.Lib.hid (show Below w2.heap.size w2 (w2.drew.alloc (.cells #[.int .u32 (qa : Int), .int .i64 qn] 25)) from ((Below.refl _ _).drew).alloc (Nat.le_refl _) _)
        have KA := Go.Lib.hid (Kpt.of (bl := bl) (v := .slice A l.length m) HB1.out)
        have O1 := Go.Lib.hid (own_keep HL.out.2 HB1.out)
        have R1 := Go.Lib.hid (show (w2.drew.alloc (.cells #[.int .u32 (qa : Int), .int .i64 qn] 25)).heap[bl]? = some (.cells #[.slice A l.length m] 41) from (HB1.out.block bl hbs).trans HL.out.1)
        have eA := (HB1.out.cell (p := ⟨bl, 0, none⟩) hbs).trans e0
        go_wp2
        refine wp_region_noPanic ?_
        refine wp_region_held_drew (S := fun w' => w'.cell? ⟨b, 0, none⟩ = some (.int .u32 qa) ∧ w'.cell? ⟨b, 1, none⟩ = some (.int .i64 qn)) (by kernel_rfl) (HS.out _ KD.out) (fun hHeld => ?_)
        refine Take.tk 1 17 hHeld ?_
        refine Take.tk 2 18 hHeld ?_
        try simp only [Act.put, Take.nm]
        refine Take.tk 3 19 hHeld ?_
        refine Take.tk 4 20 hHeld ?_
        try simp only [Act.put, Take.nm]
        refine wpAnyH_ready (rs := [0, 5]) (by kernel_rfl) (by simp) ?_
        refine AllReadyH.cons (o := _) (by rfl) (fun K hK => ?_) (AllReadyH.cons (o := _) (by rfl) (fun K hK => ?_) AllReadyH.nil)
        · go_simp
          refine hK.out _ _ hHeld (fun h1 => ?_)
          clear hK K
          try simp only [Act.put, Take.nm]
          refine wpAnyH_ready (rs := [5]) (by kernel_rfl) (by simp) ?_
          refine AllReadyH.cons (o := _) (by rfl) (fun K hK => ?_) AllReadyH.nil
          go_simp
          refine hK.out _ _ (HS.out _ KA.out) (fun h2 => ?_)
          clear hK K
          try simp only [Act.put, Take.nm]
          refine wpAnyH_ready (rs := [6]) (by kernel_rfl) (by simp) ?_
          refine AllReadyH.cons (o := _) (by rfl) (fun K hK => ?_) AllReadyH.nil
          refine step_append_row (by rfl) (.tmp 16) (.tmp 21) (by rfl) E0 base _ l.length (pcells l) (by rfl) O1.out _ 1 (pcells [⟨qa, qn⟩]) (by rfl) (one_new2 _ _ _) (ones_p _) (by unfold maxLen; omega) (by omega) (Nat.le_trans hbase HB1.out.size) (l.length + 1) rfl ?_
          intro A4 c4 w4 hown4 hg4 hat4 hb4
          have K4 := Go.Lib.hid (KA.out.grown hg4 hb4)
          have g4 : w4.heap[bl]? = some (.cells #[.slice A l.length m] 41) := (hg4.block bl (Nat.lt_of_lt_of_le hbs HB1.out.size) HBL.out.symm).trans R1.out
          have e4 : w4.cell? ⟨bl, 0, none⟩ = some (.slice A l.length m) := cell_at g4 rfl
          have f4 := frozen_of_row w4 bl 0 _ _ g4
          have O4 := Go.Lib.hid hown4
          have T4 := Go.Lib.hid hat4
          have G4 := Go.Lib.hid g4
          clear hown4 hg4 hb4 hat4 g4
          refine hK.out _ _ (HS.out _ K4.out) (fun h3 => ?_)
          clear hK K
          try simp only [Act.put, Take.nm]
          refine wpAnyH_ready (rs := [7]) (by kernel_rfl) (by simp) ?_
          refine AllReadyH.cons (o := _) (by rfl) (fun K hK => ?_) AllReadyH.nil
          go_simp
          refine hK.out _ _ (HS.out _ K4.out.set) (fun h4 => ?_)
          clear hK K
          try simp only [Act.put, Take.nm]
          refine wpAnyH_done (by kernel_rfl) ?_ _
          refine NoPanic.normal ?_
          (try go_wp2)
          refine bodyPost_end (v := .tuple #[]) (by simp [results, Try.results35, go_sem]) rfl ?_
          rw [HE.out]; exact hlift.out _ _ (pushed_end HBL.out HB1.out hbs K4.out G4.out O4.out T4.out)
        · go_simp
          refine hK.out _ _ (HS.out _ KA.out) (fun h1 => ?_)
          clear hK K
          try simp only [Act.put, Take.nm]
          refine wpAnyH_ready (rs := [0]) (by kernel_rfl) (by simp) ?_
          refine AllReadyH.cons (o := _) (by rfl) (fun K hK => ?_) AllReadyH.nil
          go_simp
          refine hK.out _ _ (HS.out _ KA.out) (fun h2 => ?_)
          clear hK K
          try simp only [Act.put, Take.nm]
          refine wpAnyH_ready (rs := [6]) (by kernel_rfl) (by simp) ?_
          refine AllReadyH.cons (o := _) (by rfl) (fun K hK => ?_) AllReadyH.nil
          refine step_append_row (by rfl) (.tmp 16) (.tmp 21) (by rfl) E0 base _ l.length (pcells l) (by rfl) O1.out _ 1 (pcells [⟨qa, qn⟩]) (by rfl) (one_new2 _ _ _) (ones_p _) (by unfold maxLen; omega) (by omega) (Nat.le_trans hbase HB1.out.size) (l.length + 1) rfl ?_
          intro A4 c4 w4 hown4 hg4 hat4 hb4
          have K4 := Go.Lib.hid (KA.out.grown hg4 hb4)
          have g4 : w4.heap[bl]? = some (.cells #[.slice A l.length m] 41) := (hg4.block bl (Nat.lt_of_lt_of_le hbs HB1.out.size) HBL.out.symm).trans R1.out
          have e4 : w4.cell? ⟨bl, 0, none⟩ = some (.slice A l.length m) := cell_at g4 rfl
          have f4 := frozen_of_row w4 bl 0 _ _ g4
          have O4 := Go.Lib.hid hown4
          have T4 := Go.Lib.hid hat4
          have G4 := Go.Lib.hid g4
          clear hown4 hg4 hb4 hat4 g4
          refine hK.out _ _ (HS.out _ K4.out) (fun h3 => ?_)
          clear hK K
          try simp only [Act.put, Take.nm]
          refine wpAnyH_ready (rs := [7]) (by kernel_rfl) (by simp) ?_
          refine AllReadyH.cons (o := _) (by rfl) (fun K hK => ?_) AllReadyH.nil
          go_simp
          refine hK.out _ _ (HS.out _ K4.out.set) (fun h4 => ?_)
          clear hK K
          try simp only [Act.put, Take.nm]
          refine wpAnyH_done (by kernel_rfl) ?_ _
          refine NoPanic.normal ?_
          (try go_wp2)
          refine bodyPost_end (v := .tuple #[]) (by simp [results, Try.results35, go_sem]) rfl ?_
          rw [HE.out]; exact hlift.out _ _ (pushed_end HBL.out HB1.out hbs K4.out G4.out O4.out T4.out)
set_option maxRecDepth 100000 in
set_option maxHeartbeats 4000000 in
theorem below1_any {W : World} {b bl bp base : Nat} {q : Pf} {x : Int} {h : Bool} {c : Int} {k0 k1 v : Value} {l : List Pf} (p : Pf) (hn : Nd W b q x h c k0 k1) (hbp : W.heap[bp]? = some (.cells #[.int .u32 (p.a : Int), .int .i64 p.n] 25)) (hL : Lst W bl base v l) (hbl : v.ownBlock ≠ some bl) (hb1 : b ≠ bl) (hb2 : v.ownBlock ≠ some b) (hbase : base ≤ W.heap.size) (hll : l.length ≤ 1000) :
    Calls Try.prog 37 #[.pointer (some ⟨b, 0, none⟩), .pointer (some ⟨bp, 0, none⟩), .pointer (some ⟨bl, 0, none⟩)] W (Pushed W bl base v (l ++ shownP q p h)) := by
  obtain ⟨i0, E0⟩ := elemP
  obtain ⟨c0, c1, -, c3, -⟩ := hn.cells
  have p0 : W.cell? ⟨bp, 0, none⟩ = some (.int .u32 (p.a : Int)) := cell_at (i := 0) hbp rfl
  have p1 : W.cell? ⟨bp, 1, none⟩ = some (.int .i64 p.n) := cell_at (i := 1) hbp rfl
  have HS0 := Go.Lib.hid (fun (W' : World) (hk : Kpt bl v W W') => (⟨cell_at ((hk.block b hn.low hb1 hb2).trans hn) rfl, cell_at ((hk.block b hn.low hb1 hb2).trans hn) rfl⟩ : W'.cell? ⟨b, 0, none⟩ = some (.int .u32 q.a) ∧ W'.cell? ⟨b, 1, none⟩ = some (.int .i64 q.n)))
  have HL0 := Go.Lib.hid hL
  have HBL := Go.Lib.hid hbl
  have e00 : W.cell? ⟨bl, 0, none⟩ = some v := cell_at (i := 0) hL.1 rfl
  have hbs0 : bl < W.heap.size := block_lt_of_cell e00
  obtain ⟨A, m, rfl⟩ := row_slice hL.2
  have k0' := cell_regrown c0
  have k1' := cell_regrown c1
  have k2' := cell_regrown c3
  have k3' := cell_regrown p0
  have k4' := cell_regrown p1
  clear hn hL hbl hb1 hb2 hbp
  cases h with
  | false =>
    go_enter Try.func37, Try.ntmps37
    go_wp2_with fail
    refine wp_region_quiet_below (by kernel_rfl) (by kernel_rfl) ?_
    repeat (first | go_big_quiet_step (fail) | quiet_step (fail))
    refine wpQuiet_nil ?_
    intro _ hw'
    obtain ⟨⟨dq, osq⟩, hw''⟩ := hw'
    subst hw''
    go_wp2
    refine bodyPost_end (v := .tuple #[]) (by simp [results, Try.results37, go_sem]) rfl ?_
    rw [show l ++ shownP q p false = l by simp [shownP]]
    exact pushed_kept HL0.out HBL.out (below_regrown W dq osq)
  | true =>
    by_cases he : q = p
    · subst he
      go_enter Try.func37, Try.ntmps37
      go_wp2_with fail
      refine wp_region_quiet_below (by kernel_rfl) (by kernel_rfl) ?_
      repeat (first | go_big_quiet_step (fail) | quiet_step (fail))
      refine wpQuiet_nil ?_
      intro _ hw'
      obtain ⟨⟨dq, osq⟩, hw''⟩ := hw'
      subst hw''
      go_wp2
      refine bodyPost_end (v := .tuple #[]) (by simp [results, Try.results37, go_sem]) rfl ?_
      rw [show l ++ shownP q q true = l by simp [shownP]]
      exact pushed_kept HL0.out HBL.out (below_regrown W dq osq)
    · have HE := Go.Lib.hid (show l ++ shownP q p true = l ++ [q] by simp [shownP, he])
      have hap := pf_apart he
      obtain ⟨qa, qn⟩ := q
      obtain ⟨pa, pn⟩ := p
      dsimp only at *
      clear he
      rcases hap with y1 | ⟨rfl, y1⟩
      all_goals
        go_enter Try.func37, Try.ntmps37
        go_wp2_with fail
        refine wp_region_quiet_below (by kernel_rfl) (by kernel_rfl) ?_
        repeat (first | go_big_quiet_step (fail) | quiet_step (fail))
        refine wpQuiet_nil ?_
        intro _ hw'
        obtain ⟨⟨dq, osq⟩, hw''⟩ := hw'
        subst hw''
        have HQ := Go.Lib.hid (below_regrown W dq osq)
        have KQ := Go.Lib.hid (Kpt.of (bl := bl) (v := .slice A l.length m) HQ.out)
        have HL := Go.Lib.hid (show Lst (Go.Sort.grow (redrawn W dq) osq) bl base (.slice A l.length m) l from ⟨(HQ.out.block bl hbs0).trans HL0.out.1, own_keep HL0.out.2 HQ.out⟩)
        have HS := Go.Lib.hid (fun (W' : World) (hk : Kpt bl (.slice A l.length m) (Go.Sort.grow (redrawn W dq) osq) W') => HS0.out W' (KQ.out.trans hk))
        have hbs := Nat.lt_of_lt_of_le hbs0 HQ.out.size
        have hbase2 := Nat.le_trans hbase HQ.out.size
        have hlift := Go.Lib.hid (fun e W' (h : Pushed (Go.Sort.grow (redrawn W dq) osq) bl base (.slice A l.length m) (l ++ [⟨qa, qn⟩]) e W') => h.lift KQ.out)
        generalize Go.Sort.grow (redrawn W dq) osq = w2 at *
        clear k0' k1' k2' k3' k4' c0 c1 c3 p0 p1 e00 hbase hbs0
        have hbase := hbase2
        clear hbase2
        obtain ⟨c0, c1⟩ := HS.out _ (Kpt.of (Below.refl _ _))
        have e0 : w2.cell? ⟨bl, 0, none⟩ = some (.slice A l.length m) := cell_at (i := 0) HL.out.1 rfl
        have f0 := frozen_of_row w2 bl 0 _ _ HL.out.1
        have KD := Go.Lib.hid (Kpt.of (bl := bl) (v := .slice A l.length m) ((Below.refl w2.heap.size w2).drew))
        have HB1 := Go.Lib.hid (show Below w2.heap.size w2 (w2.drew.alloc (.cells #[.int .u32 (qa : Int), .int .i64 qn] 25)) from ((Below.refl _ _).drew).alloc (Nat.le_refl _) _)
        have KA := Go.Lib.hid (Kpt.of (bl := bl) (v := .slice A l.length m) HB1.out)
        have O1 := Go.Lib.hid (own_keep HL.out.2 HB1.out)
        have R1 := Go.Lib.hid (show (w2.drew.alloc (.cells #[.int .u32 (qa : Int), .int .i64 qn] 25)).heap[bl]? = some (.cells #[.slice A l.length m] 41) from (HB1.out.block bl hbs).trans HL.out.1)
        have eA := (HB1.out.cell (p := ⟨bl, 0, none⟩) hbs).trans e0
        go_wp2
        refine wp_region_noPanic ?_
        refine wp_region_held_drew (S := fun w' => w'.cell? ⟨b, 0, none⟩ = some (.int .u32 qa) ∧ w'.cell? ⟨b, 1, none⟩ = some (.int .i64 qn)) (by kernel_rfl) (HS.out _ KD.out) (fun hHeld => ?_)
        refine Take.tk 1 17 hHeld ?_
        refine Take.tk 2 18 hHeld ?_
        try simp only [Act.put, Take.nm]
        refine Take.tk 3 19 hHeld ?_
        refine Take.tk 4 20 hHeld ?_
        try simp only [Act.put, Take.nm]
        refine wpAnyH_ready (rs := [0, 5]) (by kernel_rfl) (by simp) ?_
        refine AllReadyH.cons (o := _) (by rfl) (fun K hK => ?_) (AllReadyH.cons (o := _) (by rfl) (fun K hK => ?_) AllReadyH.nil)
        · go_simp
          refine hK.out _ _ hHeld (fun h1 => ?_)
          clear hK K
          try simp only [Act.put, Take.nm]
          refine wpAnyH_ready (rs := [5]) (by kernel_rfl) (by simp) ?_
          refine AllReadyH.cons (o := _) (by rfl) (fun K hK => ?_) AllReadyH.nil
          go_simp
          refine hK.out _ _ (HS.out _ KA.out) (fun h2 => ?_)
          clear hK K
          try simp only [Act.put, Take.nm]
          refine wpAnyH_ready (rs := [6]) (by kernel_rfl) (by simp) ?_
          refine AllReadyH.cons (o := _) (by rfl) (fun K hK => ?_) AllReadyH.nil
          refine step_append_row (by rfl) (.tmp 16) (.tmp 21) (by rfl) E0 base _ l.length (pcells l) (by rfl) O1.out _ 1 (pcells [⟨qa, qn⟩]) (by rfl) (one_new2 _ _ _) (ones_p _) (by unfold maxLen; omega) (by omega) (Nat.le_trans hbase HB1.out.size) (l.length + 1) rfl ?_
          intro A4 c4 w4 hown4 hg4 hat4 hb4
          have K4 := Go.Lib.hid (KA.out.grown hg4 hb4)
          have g4 : w4.heap[bl]? = some (.cells #[.slice A l.length m] 41) := (hg4.block bl (Nat.lt_of_lt_of_le hbs HB1.out.size) HBL.out.symm).trans R1.out
          have e4 : w4.cell? ⟨bl, 0, none⟩ = some (.slice A l.length m) := cell_at g4 rfl
          have f4 := frozen_of_row w4 bl 0 _ _ g4
          have O4 := Go.Lib.hid hown4
          have T4 := Go.Lib.hid hat4
          have G4 := Go.Lib.hid g4
          clear hown4 hg4 hb4 hat4 g4
          refine hK.out _ _ (HS.out _ K4.out) (fun h3 => ?_)
          clear hK K
          try simp only [Act.put, Take.nm]
          refine wpAnyH_ready (rs := [7]) (by kernel_rfl) (by simp) ?_
          refine AllReadyH.cons (o := _) (by rfl) (fun K hK => ?_) AllReadyH.nil
          go_simp
          refine hK.out _ _ (HS.out _ K4.out.set) (fun h4 => ?_)
          clear hK K
          try simp only [Act.put, Take.nm]
          refine wpAnyH_done (by kernel_rfl) ?_ _
          refine NoPanic.normal ?_
          (try go_wp2)
          refine bodyPost_end (v := .tuple #[]) (by simp [results, Try.results37, go_sem]) rfl ?_
          rw [HE.out]; exact hlift.out _ _ (pushed_end HBL.out HB1.out hbs K4.out G4.out O4.out T4.out)
        · go_simp
          refine hK.out _ _ (HS.out _ KA.out) (fun h1 => ?_)
          clear hK K
          try simp only [Act.put, Take.nm]
          refine wpAnyH_ready (rs := [0]) (by kernel_rfl) (by simp) ?_
          refine AllReadyH.cons (o := _) (by rfl) (fun K hK => ?_) AllReadyH.nil
          go_simp
          refine hK.out _ _ (HS.out _ KA.out) (fun h2 => ?_)
          clear hK K
          try simp only [Act.put, Take.nm]
          refine wpAnyH_ready (rs := [6]) (by kernel_rfl) (by simp) ?_
          refine AllReadyH.cons (o := _) (by rfl) (fun K hK => ?_) AllReadyH.nil
          refine step_append_row (by rfl) (.tmp 16) (.tmp 21) (by rfl) E0 base _ l.length (pcells l) (by rfl) O1.out _ 1 (pcells [⟨qa, qn⟩]) (by rfl) (one_new2 _ _ _) (ones_p _) (by unfold maxLen; omega) (by omega) (Nat.le_trans hbase HB1.out.size) (l.length + 1) rfl ?_
          intro A4 c4 w4 hown4 hg4 hat4 hb4
          have K4 := Go.Lib.hid (KA.out.grown hg4 hb4)
          have g4 : w4.heap[bl]? = some (.cells #[.slice A l.length m] 41) := (hg4.block bl (Nat.lt_of_lt_of_le hbs HB1.out.size) HBL.out.symm).trans R1.out
          have e4 : w4.cell? ⟨bl, 0, none⟩ = some (.slice A l.length m) := cell_at g4 rfl
          have f4 := frozen_of_row w4 bl 0 _ _ g4
          have O4 := Go.Lib.hid hown4
          have T4 := Go.Lib.hid hat4
          have G4 := Go.Lib.hid g4
          clear hown4 hg4 hb4 hat4 g4
          refine hK.out _ _ (HS.out _ K4.out) (fun h3 => ?_)
          clear hK K
          try simp only [Act.put, Take.nm]
          refine wpAnyH_ready (rs := [7]) (by kernel_rfl) (by simp) ?_
          refine AllReadyH.cons (o := _) (by rfl) (fun K hK => ?_) AllReadyH.nil
          go_simp
          refine hK.out _ _ (HS.out _ K4.out.set) (fun h4 => ?_)
          clear hK K
          try simp only [Act.put, Take.nm]
          refine wpAnyH_done (by kernel_rfl) ?_ _
          refine NoPanic.normal ?_
          (try go_wp2)
          refine bodyPost_end (v := .tuple #[]) (by simp [results, Try.results37, go_sem]) rfl ?_
          rw [HE.out]; exact hlift.out _ _ (pushed_end HBL.out HB1.out hbs K4.out G4.out O4.out T4.out)
end Go.Proofs.Ytpcahgnibdampaa.Tri
