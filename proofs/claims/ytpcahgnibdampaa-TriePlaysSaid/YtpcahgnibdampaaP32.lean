/- A slice of prefixes among a law's arguments. -/
import Derived.Test.YtpcahgnibdampaaP00
import Derived.WalkKit
import Derived.Deep.DeepHandedRow
import Derived.Lib.SmallJoins
import Derived.ChangeSlices
import Derived.OpenShut
import Derived.ProofKit
import Derived.Deep.SlicePairs
namespace Go.Proofs.Ytpcahgnibdampaa.PR
open Go.ChangeShapes Go.WideShapes Go.ChangeAt Go.RowKit Go.Joins Mem
theorem nat_of32 {x : Int} (h : (Lit.int .u32 x).wf = true) : ∃ k : Nat, x = (k : Int) ∧ k < 4294967296 := by
  have hb := bounds_u32 h
  obtain ⟨k, rfl⟩ := Int.eq_ofNat_of_zero_le hb.1
  exact ⟨k, rfl, by omega⟩
theorem pfx_cells {H : Type} {enc : TypeId × Value → H} {W : World} {n : Nat} {c0 c1 : Value} {y0 y1 : DataW H × List MemPlace} (h0 : DataW.trod enc Try.prog W 0 (fun _ => true) true n 23 [c0] = some y0) (h1 : DataW.trod enc Try.prog W 0 (fun _ => true) true n 3 [c1] = some y1) : ∃ p : Pf, p.ok ∧ [c0, c1] = pcell p := by
  obtain ⟨k, e0, _, w0⟩ := DataW.trod_int Try.underlying23 h0
  obtain ⟨y, e1, _, w1⟩ := DataW.trod_int Try.underlying3 h1
  injection e0 with e0
  injection e1 with e1
  obtain ⟨m, rfl, hm⟩ := nat_of32 w0
  exact ⟨⟨m, y⟩, ⟨hm, w1⟩, by rw [e0, e1]; rfl⟩
end Go.Proofs.Ytpcahgnibdampaa.PR
