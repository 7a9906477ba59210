/- A notice among a law's arguments. -/
import Derived.Test.YtplolahbjebbaaaDoorAttrTold
import Derived.Test.YtplolahbjebbaaaDoorOctOpenSlices
import Derived.Lib.SmallJoins
namespace Go.Proofs.YtplolahbjebbaaaDoor.Ntc
open Go.ChangeShapes Go.WideShapes Go.ChangeAt Go.RowKit Go.Joins Mem Oct Att

set_option maxRecDepth 100000 in
theorem open_notice {H : Type} {enc : TypeId × Value → H} {W : World} {base : Nat} {v : Value} {d : DataW H} {p : List MemPlace}
    (hv : Value.okWide Tryd.prog W .any base 24 v) (h : DataW.Trod enc Tryd.prog W 0 (fun _ => true) true 24 v d p) (hlt : ∀ x ∈ p, x.block < W.heap.size) : ∃ n, Note W v n := by
  obtain ⟨c0, c1, c2, y0, y1, y2, n, rfl, _, rfl, h0, h1, h2⟩ := open_agg3 Tryd.underlying24 (by kernel_rfl) (by kernel_rfl) hv h
  obtain ⟨a, e0, _, w0⟩ := DataW.trod_int Tryd.underlying3 h0
  obtain ⟨b, e1, _, w1⟩ := DataW.trod_int Tryd.underlying3 h1
  obtain ⟨l, hl⟩ := trod_u8s h2 (fun z hz => hlt z (by simp [hz]))
  injection e0 with e0
  injection e1 with e1
  exact ⟨⟨a, b, l⟩, w0, w1, c2, by rw [e0, e1], hl⟩
end Go.Proofs.YtplolahbjebbaaaDoor.Ntc
