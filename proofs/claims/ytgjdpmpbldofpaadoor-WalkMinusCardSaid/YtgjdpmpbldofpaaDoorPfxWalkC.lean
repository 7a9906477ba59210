/- The contracts of Covers, Within, Cmp, Make, and of the reference's Covers and Cmp. -/
import Derived.Test.YtgjdpmpbldofpaaDoorPfxWalkB
namespace Go.Proofs.YtgjdpmpbldofpaaDoor.Pfx
open Go.RowKit Go.Sort

/-- Four cells of two new blocks. -/
theorem cells_four (w : World) (x y z u : Value) (t : TypeId) :
    ((w.alloc (.cells #[x, y] t)).alloc (.cells #[z, u] t)).cell? ⟨w.heap.size, 0, none⟩ = some x ∧ ((w.alloc (.cells #[x, y] t)).alloc (.cells #[z, u] t)).cell? ⟨w.heap.size, 1, none⟩ = some y ∧
    ((w.alloc (.cells #[x, y] t)).alloc (.cells #[z, u] t)).cell? ⟨w.heap.size + 1, 0, none⟩ = some z ∧ ((w.alloc (.cells #[x, y] t)).alloc (.cells #[z, u] t)).cell? ⟨w.heap.size + 1, 1, none⟩ = some u := by
  refine ⟨?_, ?_, ?_, ?_⟩ <;> simp [go_sem]
theorem below_new2 (w : World) (o o' : Obj) : Below w.heap.size w ((w.alloc o).alloc o') := Below.tr (below_new _ _) (below_new _ _)

def coversB (pa : Nat) (pn : Int) (qa : Nat) (qn : Int) : Bool := goodB qa qn && decide (pn ≤ qn) && hasB pa pn qa

theorem covers_any (pa : Nat) (pn : Int) (qa : Nat) (qn : Int) (hpa : pa < 4294967296) (hqa : qa < 4294967296) (w : World) :
    Calls Tryd.prog 23 #[.agg #[.int .u32 pa, .int .i64 pn], .agg #[.int .u32 qa, .int .i64 qn]] w fun e w' => e = .returned (.bool (coversB pa pn qa qn)) ∧ Below w.heap.size w w' := by
  have hb := below_new2 w (.cells #[.int .u32 (pa : Int), .int .i64 pn] 24) (.cells #[.int .u32 (qa : Int), .int .i64 qn] 24)
  obtain ⟨c0, c1, c2, c3⟩ := cells_four w (.int .u32 (pa : Int)) (.int .i64 pn) (.int .u32 (qa : Int)) (.int .i64 qn) 24
  cases hq : goodB qa qn
  · have e : coversB pa pn qa qn = false := by unfold coversB; rw [hq]; rfl
    rw [e]
    go_enter Tryd.func23, Tryd.ntmps23
    go_wp2_with fail
    generalize (w.alloc (.cells #[.int .u32 (pa : Int), .int .i64 pn] 24)).alloc (.cells #[.int .u32 (qa : Int), .int .i64 qn] 24) = W at hb c0 c1 c2 c3 ⊢
    go_wp2_with (go_at_call 26; refine (good_any _ _ hqa _).mono ?_; rintro e w1 ⟨rfl, hb1⟩)
    go_ret
    exact ⟨ret_bool (by simp), Below.tr hb hb1⟩
  · by_cases hle : pn ≤ qn
    · have e : coversB pa pn qa qn = hasB pa pn qa := by unfold coversB; rw [hq, decide_eq_true hle]; rfl
      rw [e]
      go_enter Tryd.func23, Tryd.ntmps23
      go_wp2_with fail
      generalize (w.alloc (.cells #[.int .u32 (pa : Int), .int .i64 pn] 24)).alloc (.cells #[.int .u32 (qa : Int), .int .i64 qn] 24) = W at hb c0 c1 c2 c3 ⊢
      go_wp2_with (first | (go_at_call 26; refine (good_any _ _ hqa _).mono ?_; rintro e w1 ⟨rfl, hb1⟩; have d0 := keeps hb1 c0; have d1 := keeps hb1 c1; have d2 := keeps hb1 c2; have d3 := keeps hb1 c3) | (go_at_call 32; refine (has_any _ _ _ hpa hqa _).mono ?_; rintro e w2 ⟨rfl, hb2⟩))
      go_ret
      exact ⟨ret_bool (by simp), Below.tr hb (Below.tr hb1 hb2)⟩
    · have e : coversB pa pn qa qn = false := by unfold coversB; rw [hq, decide_eq_false hle]; rfl
      rw [e]
      go_enter Tryd.func23, Tryd.ntmps23
      go_wp2_with fail
      generalize (w.alloc (.cells #[.int .u32 (pa : Int), .int .i64 pn] 24)).alloc (.cells #[.int .u32 (qa : Int), .int .i64 qn] 24) = W at hb c0 c1 c2 c3 ⊢
      go_wp2_with (first | (go_at_call 26; refine (good_any _ _ hqa _).mono ?_; rintro e w1 ⟨rfl, hb1⟩; have d0 := keeps hb1 c0; have d1 := keeps hb1 c1; have d2 := keeps hb1 c2; have d3 := keeps hb1 c3) | (go_at_call 32; refine (has_any _ _ _ hpa hqa _).mono ?_; rintro e w2 ⟨rfl, hb2⟩))
      go_ret
      exact ⟨ret_bool (by simp), Below.tr hb hb1⟩


/-- Is p another prefix that q covers? -/
def withinB (pa : Nat) (pn : Int) (qa : Nat) (qn : Int) : Bool := !decide (pa = qa ∧ pn = qn) && coversB qa qn pa pn

/-- The order of two prefixes: by address, then by length. -/
def cmpP (pa : Nat) (pn : Int) (qa : Nat) (qn : Int) : Int := if pa < qa ∨ (pa = qa ∧ pn < qn) then -1 else if pa = qa ∧ pn = qn then 0 else 1

end Go.Proofs.YtgjdpmpbldofpaaDoor.Pfx
