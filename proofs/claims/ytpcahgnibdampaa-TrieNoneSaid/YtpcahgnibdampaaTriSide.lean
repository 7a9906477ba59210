/- The contracts of the trie's side, kid, top, size, New. -/
import Derived.Test.YtpcahgnibdampaaTriHeap
import Derived.Test.YtpcahgnibdampaaPfxWalkC
import Derived.Outline
import Derived.Deep.Cut
import Derived.Laws.Tables
import Derived.BigQuiet
import Derived.Deep.RegionHeld3
import Derived.Lib.QuietBelow
namespace Go.Proofs.Ytpcahgnibdampaa.Tri
open Go.RowKit Mem PR Pfx Oct

/-- The side that the program takes. -/
def sd (q p : Pf) : Nat := if q.n = 32 then 0 else bitOf q p
theorem sd_two (q p : Pf) : sd q p = 0 ∨ sd q p = 1 := by
  unfold sd
  split
  · exact .inl rfl
  · exact bit_two q p
/-- A contract that holds in every world that grew out of this one, in the form that a drawn region asks. -/
theorem inReg {f : FuncId} {args : Array Value} {v : Value} {W : World} (c : ∀ W', Below W.heap.size W W' → Calls Try.prog f args W' (Tells v W')) :
    ∀ d os, Calls Try.prog f args (Go.Sort.grow (redrawn W d) os) fun e w'' => e = .returned v ∧ ∃ p : Regrown, w'' = Go.Sort.grow (redrawn W p.d) p.os :=
  fun d os => Calls.regrown_of (c _ (below_regrown W d os))
theorem bit_sd (q p : Pf) (hp : p.ok) (h0 : 0 ≤ q.n) (h1 : q.n ≤ 32) (W : World) : Calls Try.prog 61 #[.int .u32 p.a, .int .i64 q.n] W (Tells (.int .i64 (sd q p)) W) := by
  obtain ⟨k, hk⟩ := Int.eq_ofNat_of_zero_le h0
  unfold sd
  by_cases h : q.n = 32
  · rw [if_pos h, h]
    exact (bit_out p.a 32 (.inr (by decide)) W).mono (by rintro e w' ⟨rfl, rfl⟩; exact ⟨rfl, Below.refl _ _⟩)
  · rw [if_neg h]
    unfold bitOf
    rw [hk]
    exact (bit_in p.a k hp.1 (by omega) W).mono (by rintro e w' ⟨rfl, rfl⟩; exact ⟨rfl, Below.refl _ _⟩)
set_option maxRecDepth 100000 in
set_option maxHeartbeats 4000000 in
theorem side_any {W : World} {b : Nat} {q : Pf} {x : Int} {h : Bool} {c : Int} {k0 k1 : Value} (p : Pf) (hn : Nd W b q x h c k0 k1) (hp : p.ok) (h0 : 0 ≤ q.n) (h1 : q.n ≤ 32) :
    Calls Try.prog 57 #[.pointer (some ⟨b, 0, none⟩), pV p] W (Tells (.int .i64 (sd q p)) W) := by
  have CB := Go.Lib.hid (bit_sd q p hp h0 h1)
  have hb := below_new W (.cells #[.int .u32 (p.a : Int), .int .i64 p.n] 25)
  obtain ⟨c0, c1⟩ := cells_two W (.int .u32 (p.a : Int)) (.int .i64 p.n) 25
  obtain ⟨-, d1, -⟩ := hn.cells
  have e1 := (hb.cell (p := ⟨b, 1, none⟩) hn.low).trans d1
  have HB := Go.Lib.hid hb
  unfold pV
  clear hn d1 hb
  generalize hs : sd q p = s at *
  clear hs
  generalize q.n = qn at *
  clear h0 h1 hp
  go_enter Try.func57, Try.ntmps57
  go_wp2_with fail
  generalize W.alloc (.cells #[.int .u32 (p.a : Int), .int .i64 p.n] 25) = W1 at *
  have k0 := cell_regrown c0
  have k1 := cell_regrown c1
  have k2 := cell_regrown e1
  have cB := inReg (W := W1) (fun W' _ => CB.out W')
  refine wp_region_quiet_below (by kernel_rfl) (by kernel_rfl) ?_
  repeat (first | go_big_quiet_step (exact cB _ _) | quiet_step (exact cB _ _))
  refine wpQuiet_nil ?_
  intro _ hw'
  obtain ⟨⟨dq, osq⟩, hw''⟩ := hw'
  subst hw''
  go_wp2_with fail
  go_ret
  exact ⟨rfl, Pfx.Below.tr HB.out (below_regrown W1 dq osq)⟩
set_option maxRecDepth 100000 in
set_option maxHeartbeats 4000000 in
theorem kid_any {W : World} {b : Nat} {q : Pf} {x : Int} {h : Bool} {c : Int} {k0 k1 : Value} (p : Pf) (hn : Nd W b q x h c k0 k1) (hp : p.ok) (h0 : 0 ≤ q.n) (h1 : q.n ≤ 32) :
    Calls Try.prog 52 #[.pointer (some ⟨b, 0, none⟩), pV p] W (Tells (.pointer (some ⟨b, 5 + sd q p, none⟩)) W) := by
  have hb := below_new W (.cells #[.int .u32 (p.a : Int), .int .i64 p.n] 25)
  obtain ⟨c0, c1⟩ := cells_two W (.int .u32 (p.a : Int)) (.int .i64 p.n) 25
  have HN := Go.Lib.hid (fun (W' : World) (hb2 : Below (W.alloc (.cells #[.int .u32 (p.a : Int), .int .i64 p.n] 25)).heap.size (W.alloc (.cells #[.int .u32 (p.a : Int), .int .i64 p.n] 25)) W') =>
    side_any (W := W') (b := b) (q := q) (x := x) (h := h) (c := c) (k0 := k0) (k1 := k1) p ((Pfx.Below.tr hb hb2).block b hn.low |>.trans hn) hp h0 h1)
  have HB := Go.Lib.hid hb
  unfold pV at *
  clear hn hb
  have hs := sd_two q p
  generalize sd q p = s at *
  clear h0 h1 hp
  rcases hs with rfl | rfl
  all_goals
    go_enter Try.func52, Try.ntmps52
    go_wp2_with fail
    generalize W.alloc (.cells #[.int .u32 (p.a : Int), .int .i64 p.n] 25) = W1 at *
    have k0 := cell_regrown c0
    have k1 := cell_regrown c1
    have cB := inReg (W := W1) HN.out
    refine wp_region_quiet_below (by kernel_rfl) (by kernel_rfl) ?_
    repeat (first | go_big_quiet_step (exact cB _ _) | quiet_step (exact cB _ _))
    refine wpQuiet_nil ?_
    intro _ hw'
    obtain ⟨⟨dq, osq⟩, hw''⟩ := hw'
    subst hw''
    go_wp2_with fail
    go_ret
    exact ⟨rfl, Pfx.Below.tr HB.out (below_regrown W1 dq osq)⟩
set_option maxRecDepth 100000 in
set_option maxHeartbeats 4000000 in
theorem top_any {W : World} {tb : Nat} {m : MT} (h : TreeM W tb m) : Calls Try.prog 31 #[.pointer (some ⟨tb, 0, none⟩)] W (Tells (ptr m) W) := by
  have c0 : W.cell? ⟨tb, 0, none⟩ = some (ptr m) := cell_at h.1 rfl
  clear h
  go_enter Try.func31, Try.ntmps31
  go_wp2_with fail
  go_ret
  exact ⟨rfl, Below.refl _ _⟩
theorem top_nil (W : World) : Calls Try.prog 31 #[.pointer none] W (Tells (.pointer none) W) := by
  go_enter Try.func31, Try.ntmps31
  go_wp2_with fail
  go_ret
  exact ⟨rfl, Below.refl _ _⟩
def cntV : MT → Int
  | .nil => 0
  | .node _ _ _ _ c _ _ => c
theorem size_any {W : World} {m : MT} (h : Mt W m) : Calls Try.prog 38 #[ptr m] W (Tells (.int .i64 (cntV m)) W) := by
  cases m with
  | nil =>
    unfold ptr cntV
    go_enter Try.func38, Try.ntmps38
    go_wp2_with fail
    go_ret
    exact ⟨rfl, Below.refl _ _⟩
  | node b q x h0 c s t =>
    obtain ⟨-, -, -, -, d4, -⟩ := h.1.cells
    unfold ptr cntV
    clear h
    go_enter Try.func38, Try.ntmps38
    go_wp2_with fail
    go_ret
    exact ⟨rfl, Below.refl _ _⟩
theorem new_any (W : World) : Calls Try.prog 7 #[] W (fun e W' => ∃ b F, e = .returned (.pointer (some ⟨b, 0, none⟩)) ∧ TT W' W.heap.size (.pointer (some ⟨b, 0, none⟩)) .nil F ∧ Below W.heap.size W W') := by
  go_enter Try.func7, Try.ntmps7
  go_wp2_with fail
  go_ret
  refine ⟨W.heap.size, Blks W.heap.size .nil, rfl, ⟨W.heap.size, .nil, rfl, ⟨by rw [heap_alloc_new]; rfl, trivial, fun a => by simp only [cnt]; split <;> omega⟩, rfl, trivial, trivial, fun k => Iff.rfl, fun k hk => ?_⟩, below_new _ _⟩
  rcases hk with rfl | hk
  · exact Nat.le_refl _
  · exact absurd hk (Nat.lt_irrefl 0)
end Go.Proofs.Ytpcahgnibdampaa.Tri
