/- The contracts of what the trie's functions hand to over and each: the functions within Put, Cut, Longest, Nodes; and drop. -/
import Derived.Test.YtpcahgnibdampaaTriEach
import Derived.RegionTactic
import Derived.Outline
import Derived.Deep.Cut
import Derived.Laws.Tables
import Derived.BigQuiet
import Derived.Deep.RegionHeld3
import Derived.Lib.QuietBelow
namespace Go.Proofs.Ytpcahgnibdampaa.Tri
open Go.RowKit Mem PR Pfx Oct

theorem enters_nodes : Enters 42 := fun _ _ => rfl
theorem enters_long : Enters 34 := fun _ _ => rfl
theorem enters_put : Enters 45 := fun _ _ => rfl
theorem enters_cut : Enters 46 := fun _ _ => rfl
set_option maxRecDepth 100000 in
set_option maxHeartbeats 4000000 in
theorem nodes1_any {W : World} {b bl : Nat} {n : Int} (hl : W.heap[bl]? = some (.cells #[.int .i64 n] 3)) (h0 : 0 ≤ n) (h1 : n < 1000000) :
    Calls Try.prog 42 #[.pointer (some ⟨b, 0, none⟩), .pointer (some ⟨bl, 0, none⟩)] W fun e W' => e = .returned (.tuple #[]) ∧ W' = W.setCell ⟨bl, 0, none⟩ (.int .i64 (n + 1)) := by
  have c0 : W.cell? ⟨bl, 0, none⟩ = some (.int .i64 n) := cell_at hl rfl
  have f0 := frozen_of_row W bl 0 _ _ hl
  have y1 : IntKind.i64.wrap (n + 1) = n + 1 := by rw [IntKind.wrap_i64]; omega
  clear hl
  go_enter Try.func42, Try.ntmps42
  go_wp2
  refine bodyPost_end (v := .tuple #[]) (by simp [results, Try.results42, go_sem]) rfl ?_
  exact ⟨rfl, rfl⟩
set_option maxRecDepth 100000 in
set_option maxHeartbeats 4000000 in
theorem put1_any {W : World} {b : Nat} {q : Pf} {x : Int} {h : Bool} {c : Int} {k0 k1 : Value} (hn : Nd W b q x h c k0 k1) (h0 : -1000000 < c) (h1 : c < 1000000) :
    Calls Try.prog 45 #[.pointer (some ⟨b, 0, none⟩)] W fun e W' => e = .returned (.tuple #[]) ∧ W' = W.setCell ⟨b, 4, none⟩ (.int .i64 (c + 1)) := by
  obtain ⟨-, -, -, -, c0, -⟩ := hn.cells
  have f0 := frozen_of_row W b 4 _ _ hn
  have y1 : IntKind.i64.wrap (c + 1) = c + 1 := by rw [IntKind.wrap_i64]; omega
  clear hn
  go_enter Try.func45, Try.ntmps45
  go_wp2
  refine bodyPost_end (v := .tuple #[]) (by simp [results, Try.results45, go_sem]) rfl ?_
  exact ⟨rfl, rfl⟩
set_option maxRecDepth 100000 in
set_option maxHeartbeats 4000000 in
theorem cut1_any {W : World} {b : Nat} {q : Pf} {x : Int} {h : Bool} {c : Int} {k0 k1 : Value} (hn : Nd W b q x h c k0 k1) (h0 : -1000000 < c) (h1 : c < 1000000) :
    Calls Try.prog 46 #[.pointer (some ⟨b, 0, none⟩)] W fun e W' => e = .returned (.tuple #[]) ∧ W' = W.setCell ⟨b, 4, none⟩ (.int .i64 (c - 1)) := by
  obtain ⟨-, -, -, -, c0, -⟩ := hn.cells
  have f0 := frozen_of_row W b 4 _ _ hn
  have y1 : IntKind.i64.wrap (c - 1) = c - 1 := by rw [IntKind.wrap_i64]; omega
  clear hn
  go_enter Try.func46, Try.ntmps46
  go_wp2
  refine bodyPost_end (v := .tuple #[]) (by simp [results, Try.results46, go_sem]) rfl ?_
  exact ⟨rfl, rfl⟩
set_option maxRecDepth 100000 in
set_option maxHeartbeats 4000000 in
theorem drop_any {W : World} {b : Nat} {q : Pf} {x : Int} {h : Bool} {c : Int} {k0 k1 : Value} (hn : Nd W b q x h c k0 k1) :
    Calls Try.prog 47 #[.pointer (some ⟨b, 0, none⟩)] W fun e W' => e = .returned (.tuple #[]) ∧ W' = (W.setCell ⟨b, 2, none⟩ (.int .i64 0)).setCell ⟨b, 3, none⟩ (.bool false) := by
  obtain ⟨-, -, c0, c1, -⟩ := hn.cells
  have f0 := frozen_of_row W b 2 _ _ hn
  have f1 := frozen_of_row W b 3 _ _ hn
  clear hn
  go_enter Try.func47, Try.ntmps47
  go_wp2
  refine bodyPost_end (v := .tuple #[]) (by simp [results, Try.results47, go_sem]) rfl ?_
  exact ⟨rfl, rfl⟩
/-- The three boxes of what was found last. -/
def Found (W : World) (x0 x1 x2 : Nat) (v0 : Pf) (v1 : Int) (v2 : Bool) : Prop :=
  W.heap[x0]? = some (.cells #[.int .u32 v0.a, .int .i64 v0.n] 25) ∧ W.heap[x1]? = some (.cells #[.int .i64 v1] 3) ∧ W.heap[x2]? = some (.cells #[.bool v2] 4)
theorem set_ne {W : World} {b i k : Nat} {u : Value} (h : k ≠ b) : (W.setCell ⟨b, i, none⟩ u).heap[k]? = W.heap[k]? := Go.RowKit.Below.heap_setCell _ _ _ _ h
theorem found_set {W : World} {x0 x1 x2 : Nat} {v0 u0 : Pf} {v1 u1 : Int} {v2 u2 : Bool} (h : Found W x0 x1 x2 v0 v1 v2) (n3 : x0 ≠ x1) (n4 : x0 ≠ x2) (n5 : x1 ≠ x2) :
    Found (((((W.setCell ⟨x0, 0, none⟩ (.int .u32 u0.a)).setCell ⟨x0, 1, none⟩ (.int .i64 u0.n)).setCell ⟨x1, 0, none⟩ (.int .i64 u1)).setCell ⟨x2, 0, none⟩ (.bool u2)).drew) x0 x1 x2 u0 u1 u2 := by
  obtain ⟨g0, g1, g2⟩ := h
  refine ⟨?_, ?_, ?_⟩
  · exact (set_ne n4).trans ((set_ne n3).trans (heap_set (i := 1) (.int .i64 u0.n) (heap_set (i := 0) (.int .u32 u0.a) g0)))
  · exact (set_ne n5).trans (heap_set (i := 0) (.int .i64 u1) ((set_ne n3.symm).trans ((set_ne n3.symm).trans g1)))
  · exact heap_set (i := 0) (.bool u2) ((set_ne n5.symm).trans ((set_ne n4.symm).trans ((set_ne n4.symm).trans g2)))
set_option maxRecDepth 100000 in
set_option maxHeartbeats 4000000 in
theorem long1_any {W : World} {b x0 x1 x2 : Nat} {q : Pf} {x : Int} {h : Bool} {c : Int} {k0 k1 : Value} {v0 : Pf} {v1 : Int} {v2 : Bool} (hn : Nd W b q x h c k0 k1) (hf : Found W x0 x1 x2 v0 v1 v2) (n3 : x0 ≠ x1) (n4 : x0 ≠ x2) (n5 : x1 ≠ x2) :
    Calls Try.prog 34 #[.pointer (some ⟨b, 0, none⟩), .pointer (some ⟨x0, 0, none⟩), .pointer (some ⟨x1, 0, none⟩), .pointer (some ⟨x2, 0, none⟩)] W fun e W' => e = .returned (.tuple #[]) ∧
      Found W' x0 x1 x2 (if h then q else v0) (if h then x else v1) (if h then true else v2) ∧ W'.heap.size = W.heap.size ∧ W'.os = W.os ∧ W'.tape = W.tape ∧ W'.output = W.output ∧ ∀ k, k ≠ x0 → k ≠ x1 → k ≠ x2 → W'.heap[k]? = W.heap[k]? := by
  obtain ⟨c0, c1, c2, c3, -⟩ := hn.cells
  cases h with
  | false =>
    have HF := Go.Lib.hid hf
    clear hf hn
    go_enter Try.func34, Try.ntmps34
    go_wp2
    refine bodyPost_end (v := .tuple #[]) (by simp [results, Try.results34, go_sem]) rfl ?_
    exact ⟨rfl, HF.out, rfl, rfl, rfl, rfl, fun _ _ _ _ => rfl⟩
  | true =>
    have HF := Go.Lib.hid hf
    obtain ⟨g0, g1, g2⟩ := hf
    have e0 := cell_at (i := 0) g0 rfl
    have e1 := cell_at (i := 1) g0 rfl
    have e2 := cell_at (i := 0) g1 rfl
    have e3 := cell_at (i := 0) g2 rfl
    have f0 := frozen_of_row W x0 0 _ _ g0
    have f1 := frozen_of_row W x0 1 _ _ g0
    have f2 := frozen_of_row W x1 0 _ _ g1
    have f3 := frozen_of_row W x2 0 _ _ g2
    clear hn g0 g1 g2
    go_enter Try.func34, Try.ntmps34
    go_wp2
    go_region
    all_goals (try go_wp2)
    all_goals refine bodyPost_end (v := .tuple #[]) (by simp [results, Try.results34, go_sem]) rfl ?_
    exact ⟨rfl, found_set HF.out n3 n4 n5, by simp [World.setCell], rfl, rfl, rfl, fun k k0 k1 k2 => (set_ne k2).trans ((set_ne k1).trans ((set_ne k0).trans (set_ne k0)))⟩
end Go.Proofs.Ytpcahgnibdampaa.Tri
