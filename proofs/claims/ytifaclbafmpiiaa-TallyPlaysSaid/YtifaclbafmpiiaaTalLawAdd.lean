/- The law's own add: to the tally and to the rows, over what the tally's Add gives. -/
import Derived.Test.YtifaclbafmpiiaaTalFace
namespace Go.Proofs.Ytifaclbafmpiiaa.Tal
open Go.RowKit Mem

/-- Rows lie as they lay behind a tally's call, where they are none of its blocks. -/
theorem cnts_moved {F F' : Nat → Prop} {W W' : World} {v : Value} {l : List Cnt} (hm : Moved F F' W W') (h : Cnts W v l) (hne : ∀ b off m c, v = .slice (some ⟨b, off, none⟩) m c → 0 < m → ¬ F b) : Cnts W' v l := by
  obtain ⟨hl, A, c, rfl, hn, hc, hr⟩ := h
  refine ⟨hl, A, c, rfl, hn, hc, fun h0 => ?_⟩
  obtain ⟨b, off, rfl, hlt, hcell⟩ := hr h0
  refine ⟨b, off, rfl, Nat.lt_of_lt_of_le hlt hm.size, fun i x hx => ?_⟩
  rw [← hcell i x hx]
  exact World.cell?_of_block (hm.block b hlt (hne b off _ c rfl h0))
theorem Moved.behind {F F' : Nat → Prop} {w W W' : World} (hb : Below w.heap.size w W) (h : Moved F F' W W') : Moved F F' w W' :=
  ⟨h.os.trans hb.os, h.tape.trans hb.tape, h.output.trans hb.output, Nat.le_trans hb.size h.size, fun k hk hf => (h.block k (Nat.lt_of_lt_of_le hk hb.size) hf).trans (hb.block k hk), fun k hk => (h.new k hk).imp id (Nat.le_trans hb.size)⟩
/-- What the law's add gives: the tally with the counts, and the rows with them. -/
def BothAdd (T : World → Value → List Cnt → (Nat → Prop) → Prop) (t : Value) (F : Nat → Prop) (l : List Cnt) (w : World) (e : Ending) (w' : World) : Prop :=
  ∃ v F' w1, e = .returned (.tuple #[v, .bool true]) ∧ T w1 t l F' ∧ Moved F F' w w1 ∧ w'.ownsRow w1.heap.size 32 3 v l.length (cntCells l) ∧ Below w1.heap.size w1 w'

set_option maxRecDepth 100000 in
set_option maxHeartbeats 4000000 in
theorem ladd_good (T : World → Value → List Cnt → (Nat → Prop) → Prop) (HF : Face T) (t v : Value) (l : List Cnt) (F : Nat → Prop) (kind : Int) (key up down m : Nat) (w : World) (hT : T w t l F) (hv : Cnts w v l) (hne : ∀ b off n c, v = .slice (some ⟨b, off, none⟩) n c → 0 < n → ¬ F b)
    (hlen : l.length ≤ 2000) (hu : up ≤ 1073741824) (hd : down ≤ 1073741824) (hm : Under m l) (hm2 : m + 1073741824 ≤ 549755813888)
    (CA : ∀ W, T W t l F → Calls Try.prog 12 #[t, .int .u32 key, .int .i64 up, .int .i64 down] W fun e W' => ∃ F', e = .returned (.int .i64 0) ∧ T W' t (addS l key up down) F' ∧ Moved F F' W W') :
    Calls Try.prog 15 #[t, v, .agg #[.int .i64 kind, .int .u32 key, .int .i64 up, .int .i64 down]] w (BothAdd T t F (addS l key up down) w) := by
  have hB0 : Below w.heap.size w (w.alloc (.cells #[.int .i64 kind, .int .u32 key, .int .i64 up, .int .i64 down] 28)) := (Below.refl _ w).alloc (Nat.le_refl _) _
  have hT0 := HF.below hT hB0
  have HBW := Go.Lib.hid hB0
  have C1 := Go.Lib.hid (CA _ hT0)
  have HFL := Go.Lib.hid (fun k (hk : F k) => HF.lt hT hk)
  have HV := Go.Lib.hid (hv.keep hB0)
  have HNE := Go.Lib.hid hne
  have CR := Go.Lib.hid (fun W (h : Cnts W v l) => radd_any v l key up down m W h hlen hu hd hm hm2)
  have c0 : (w.alloc (.cells #[.int .i64 kind, .int .u32 key, .int .i64 up, .int .i64 down] 28)).cell? ⟨w.heap.size, 1, none⟩ = some (.int .u32 key) := by simp
  have c1 : (w.alloc (.cells #[.int .i64 kind, .int .u32 key, .int .i64 up, .int .i64 down] 28)).cell? ⟨w.heap.size, 2, none⟩ = some (.int .i64 up) := by simp
  have c2 : (w.alloc (.cells #[.int .i64 kind, .int .u32 key, .int .i64 up, .int .i64 down] 28)).cell? ⟨w.heap.size, 3, none⟩ = some (.int .i64 down) := by simp
  have hs0 : w.heap.size < (w.alloc (.cells #[.int .i64 kind, .int .u32 key, .int .i64 up, .int .i64 down] 28)).heap.size := by simp
  obtain ⟨W0, hW0⟩ : ∃ W0, W0 = w.alloc (.cells #[.int .i64 kind, .int .u32 key, .int .i64 up, .int .i64 down] 28) := ⟨_, rfl⟩
  rw [← hW0] at C1 HV HBW c0 c1 c2 hs0
  have HC := Go.Lib.hid (⟨c0, c1, c2, hs0⟩ : W0.cell? ⟨w.heap.size, 1, none⟩ = some (.int .u32 key) ∧ W0.cell? ⟨w.heap.size, 2, none⟩ = some (.int .i64 up) ∧ W0.cell? ⟨w.heap.size, 3, none⟩ = some (.int .i64 down) ∧ w.heap.size < W0.heap.size)
  have d1 : decide ((up : Int) < 0) = false := by simp
  have d2 : decide ((down : Int) < 0) = false := by simp
  have d3 : decide ((1073741824 : Int) < (up : Int)) = false := by simp; omega
  have d4 : decide ((1073741824 : Int) < (down : Int)) = false := by simp; omega
  have HW := Go.Lib.hid hW0
  obtain ⟨L, hL⟩ : ∃ L, L = addS l key up down := ⟨_, rfl⟩
  rw [← hL] at C1 CR ⊢
  clear hW0 hT hv hB0 hT0 hne CA hm hL HF hs0
  go_enter Try.func15, Try.ntmps15
  go_wp2_with fail
  try (rw [← HW.out])
  go_wp2_with (first
    | (go_at_call 12; refine (C1.out).mono ?_; rintro e W1 ⟨F', rfl, hT1, hmv⟩; have HT1 := Go.Lib.hid hT1; have HMV := Go.Lib.hid hmv; have hbk := hmv.block w.heap.size HC.out.2.2.2 (fun hf => by have := HFL.out _ hf; omega); have k0 := (World.cell?_of_block (a := ⟨w.heap.size, 1, none⟩) hbk).trans HC.out.1; have k1 := (World.cell?_of_block (a := ⟨w.heap.size, 2, none⟩) hbk).trans HC.out.2.1; have k2 := (World.cell?_of_block (a := ⟨w.heap.size, 3, none⟩) hbk).trans HC.out.2.2.1; have HV1 := Go.Lib.hid (cnts_moved hmv HV.out HNE.out); clear hT1 hmv hbk)
    | (go_at_call 13; refine (CR.out _ HV1.out).mono ?_; rintro e W2 ⟨v2, rfl, hown2, hb2⟩))
  go_ret2
  exact ⟨v2, F', W1, rfl, HT1.out, Moved.behind HBW.out HMV.out, hown2, hb2⟩

set_option maxRecDepth 100000 in
set_option maxHeartbeats 4000000 in
/-- .. counts that may not be added: both stay. -/
theorem ladd_bad (t v : Value) (a : Act) (w : World) (hbad : (decide (a.up < 0) || decide (a.down < 0) || decide (1073741824 < a.up) || decide (1073741824 < a.down)) = true)
    (CA : ∀ W, Calls Try.prog 12 #[t, .int .u32 a.key, .int .i64 a.up, .int .i64 a.down] W (Tells (.int .i64 1) W)) :
    Calls Try.prog 15 #[t, v, actV a] w (Tells (.tuple #[v, .bool true]) w) := by
  obtain ⟨kind, key, up, down⟩ := a
  simp only at hbad CA
  have HBW : Below w.heap.size w (w.alloc (.cells #[.int .i64 kind, .int .u32 key, .int .i64 up, .int .i64 down] 28)) := (Below.refl _ w).alloc (Nat.le_refl _) _
  have c0 : (w.alloc (.cells #[.int .i64 kind, .int .u32 key, .int .i64 up, .int .i64 down] 28)).cell? ⟨w.heap.size, 1, none⟩ = some (.int .u32 key) := by simp
  have c1 : (w.alloc (.cells #[.int .i64 kind, .int .u32 key, .int .i64 up, .int .i64 down] 28)).cell? ⟨w.heap.size, 2, none⟩ = some (.int .i64 up) := by simp
  have c2 : (w.alloc (.cells #[.int .i64 kind, .int .u32 key, .int .i64 up, .int .i64 down] 28)).cell? ⟨w.heap.size, 3, none⟩ = some (.int .i64 down) := by simp
  have hs0 : w.heap.size < (w.alloc (.cells #[.int .i64 kind, .int .u32 key, .int .i64 up, .int .i64 down] 28)).heap.size := by simp
  obtain ⟨W0, hW0⟩ : ∃ W0, W0 = w.alloc (.cells #[.int .i64 kind, .int .u32 key, .int .i64 up, .int .i64 down] 28) := ⟨_, rfl⟩
  rw [← hW0] at HBW c0 c1 c2 hs0
  have C1 := Go.Lib.hid (CA W0)
  have HB := Go.Lib.hid HBW
  have HC := Go.Lib.hid (⟨c0, c1, c2, hs0⟩ : W0.cell? ⟨w.heap.size, 1, none⟩ = some (.int .u32 key) ∧ W0.cell? ⟨w.heap.size, 2, none⟩ = some (.int .i64 up) ∧ W0.cell? ⟨w.heap.size, 3, none⟩ = some (.int .i64 down) ∧ w.heap.size < W0.heap.size)
  have HW := Go.Lib.hid hW0
  have HBD := Go.Lib.hid hbad
  unfold actV
  dsimp only
  cases d1 : decide (up < 0) <;> cases d2 : decide (down < 0) <;> cases d3 : decide (1073741824 < up) <;> cases d4 : decide (1073741824 < down)
  · rw [d1, d2, d3, d4] at hbad
    cases hbad
  all_goals clear hW0 CA HBW hs0 hbad
  all_goals go_enter Try.func15, Try.ntmps15
  all_goals go_wp2_with fail
  all_goals try (rw [← HW.out])
  all_goals go_wp2_with (go_at_call 12; refine (C1.out).mono ?_; rintro e W1 ⟨rfl, hb1⟩; have HB1 := Go.Lib.hid hb1; have k0 := (hb1.cell (p := ⟨w.heap.size, 1, none⟩) HC.out.2.2.2).trans HC.out.1; have k1 := (hb1.cell (p := ⟨w.heap.size, 2, none⟩) HC.out.2.2.2).trans HC.out.2.1; have k2 := (hb1.cell (p := ⟨w.heap.size, 3, none⟩) HC.out.2.2.2).trans HC.out.2.2.1)
  all_goals go_ret2
  all_goals exact ⟨rfl, HB.out.trans (HB1.out.mono HB.out.size)⟩
end Go.Proofs.Ytifaclbafmpiiaa.Tal
