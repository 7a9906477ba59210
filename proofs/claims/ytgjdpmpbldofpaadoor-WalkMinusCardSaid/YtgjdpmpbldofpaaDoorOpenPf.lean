/- A prefix among a law's arguments: an address and a length, each in its bounds. -/
import Derived.Test.YtgjdpmpbldofpaaDoorOpenPfxs
import Derived.Test.YtgjdpmpbldofpaaDoorPfxGive
namespace Go.Proofs.YtgjdpmpbldofpaaDoor.Tri
open Go.ChangeShapes Go.WideShapes Go.ChangeAt Go.RowKit Go.Joins Mem PR Pfx

theorem cells_pf : Tryd.prog.cellsOf 24 = 2 := by kernel_rfl
set_option maxRecDepth 100000 in
theorem open_pf {H : Type} {enc : TypeId × Value → H} {W : World} {base : Nat} {v : Value} {d : DataW H} {p : List MemPlace}
    (hv : Value.okWide Tryd.prog W .any base 24 v) (h : DataW.Trod enc Tryd.prog W 0 (fun _ => true) true 24 v d p) : ∃ q : Pf, q.ok ∧ v = pV q := by
  obtain ⟨c0, c1, y0, y1, m, rfl, rfl, rfl, hy0, hy1⟩ := open_agg2 Tryd.underlying24 (by kernel_rfl) cells_pf hv h
  obtain ⟨q, hq, e⟩ := pfx_cells hy0 hy1
  simp only [pcell, List.cons.injEq, and_true] at e
  obtain ⟨rfl, rfl⟩ := e
  exact ⟨q, hq, rfl⟩
end Go.Proofs.YtgjdpmpbldofpaaDoor.Tri
