/- The contracts of Covers, Within, Cmp, Make, and of the reference's Covers and Cmp. -/
import Derived.Test.YtaemhgmekggliaaPfxWalkB
namespace Go.Proofs.Ytaemhgmekggliaa.Pfx
open Go.RowKit Go.Sort

/-- Four cells of two new blocks. -/
theorem cells_four (w : World) (x y z u : Value) (t : TypeId) :
    ((w.alloc (.cells #[x, y] t)).alloc (.cells #[z, u] t)).cell? ⟨w.heap.size, 0, none⟩ = some x ∧ ((w.alloc (.cells #[x, y] t)).alloc (.cells #[z, u] t)).cell? ⟨w.heap.size, 1, none⟩ = some y ∧
    ((w.alloc (.cells #[x, y] t)).alloc (.cells #[z, u] t)).cell? ⟨w.heap.size + 1, 0, none⟩ = some z ∧ ((w.alloc (.cells #[x, y] t)).alloc (.cells #[z, u] t)).cell? ⟨w.heap.size + 1, 1, none⟩ = some u := by
  refine ⟨?_, ?_, ?_, ?_⟩ <;> simp [go_sem]
theorem below_new2 (w : World) (o o' : Obj) : Below w.heap.size w ((w.alloc o).alloc o') := Below.tr (below_new _ _) (below_new _ _)

def coversB (pa : Nat) (pn : Int) (qa : Nat) (qn : Int) : Bool := goodB qa qn && decide (pn ≤ qn) && hasB pa pn qa



/-- Is p another prefix that q covers? -/
def withinB (pa : Nat) (pn : Int) (qa : Nat) (qn : Int) : Bool := !decide (pa = qa ∧ pn = qn) && coversB qa qn pa pn

/-- The order of two prefixes: by address, then by length. -/
def cmpP (pa : Nat) (pn : Int) (qa : Nat) (qn : Int) : Int := if pa < qa ∨ (pa = qa ∧ pn < qn) then -1 else if pa = qa ∧ pn = qn then 0 else 1
theorem refCmp_any (pa : Nat) (pn : Int) (qa : Nat) (qn : Int) (w : World) :
    Calls Try.prog 39 #[.agg #[.int .u32 pa, .int .i64 pn], .agg #[.int .u32 qa, .int .i64 qn]] w fun e w' => e = .returned (.int .i64 (cmpP pa pn qa qn)) ∧ Below w.heap.size w w' := by
  have hb := below_new2 w (.cells #[.int .u32 (pa : Int), .int .i64 pn] 31) (.cells #[.int .u32 (qa : Int), .int .i64 qn] 31)
  rcases Nat.lt_trichotomy pa qa with h | h | h
  · have e : cmpP pa pn qa qn = -1 := by unfold cmpP; rw [if_pos (Or.inl h)]
    rw [e]
    go_enter Try.func39, Try.ntmps39
    go_wp2_with fail
    go_ret
    exact ⟨rfl, hb⟩
  · subst h
    rcases Int.lt_trichotomy pn qn with h | h | h
    · have e : cmpP pa pn pa qn = -1 := by unfold cmpP; rw [if_pos (Or.inr ⟨rfl, h⟩)]
      rw [e]
      go_enter Try.func39, Try.ntmps39
      go_wp2_with fail
      go_ret
      exact ⟨rfl, hb⟩
    · subst h
      have e : cmpP pa pn pa pn = 0 := by unfold cmpP; rw [if_neg (by omega), if_pos ⟨rfl, rfl⟩]
      rw [e]
      go_enter Try.func39, Try.ntmps39
      go_wp2_with fail
      go_ret
      exact ⟨rfl, hb⟩
    · have e : cmpP pa pn pa qn = 1 := by unfold cmpP; rw [if_neg (by omega), if_neg (by omega)]
      have hne : ¬ pn = qn := by omega
      rw [e]
      go_enter Try.func39, Try.ntmps39
      go_wp2_with fail
      go_ret
      exact ⟨rfl, hb⟩
  · have e : cmpP pa pn qa qn = 1 := by unfold cmpP; rw [if_neg (by omega), if_neg (by omega)]
    have hne : ¬ ((pa : Int) = (qa : Int)) := by omega
    rw [e]
    go_enter Try.func39, Try.ntmps39
    go_wp2_with fail
    go_ret
    exact ⟨rfl, hb⟩

end Go.Proofs.Ytaemhgmekggliaa.Pfx
