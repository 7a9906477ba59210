/- A slice of prefixes among a law's arguments. -/
import Derived.Test.YtgjdpmpbldofpaaDoorPfxRows
import Derived.WalkKit
import Derived.Deep.DeepHandedRow
import Derived.Lib.SmallJoins
import Derived.ChangeSlices
import Derived.OpenShut
import Derived.ProofKit
import Derived.Deep.SlicePairs
namespace Go.Proofs.YtgjdpmpbldofpaaDoor.PR
open Go.ChangeShapes Go.WideShapes Go.ChangeAt Go.RowKit Go.Joins Mem

theorem nat_of32 {x : Int} (h : (Lit.int .u32 x).wf = true) : ∃ k : Nat, x = (k : Int) ∧ k < 4294967296 := by
  have hb := bounds_u32 h
  obtain ⟨k, rfl⟩ := Int.eq_ofNat_of_zero_le hb.1
  exact ⟨k, rfl, by omega⟩
theorem pfx_cells {H : Type} {enc : TypeId × Value → H} {W : World} {n : Nat} {c0 c1 : Value} {y0 y1 : DataW H × List MemPlace} (h0 : DataW.trod enc Tryd.prog W 0 (fun _ => true) true n 22 [c0] = some y0) (h1 : DataW.trod enc Tryd.prog W 0 (fun _ => true) true n 3 [c1] = some y1) : ∃ p : Pf, p.ok ∧ [c0, c1] = pcell p := by
  obtain ⟨k, e0, _, w0⟩ := DataW.trod_int Tryd.underlying22 h0
  obtain ⟨y, e1, _, w1⟩ := DataW.trod_int Tryd.underlying3 h1
  injection e0 with e0
  injection e1 with e1
  obtain ⟨m, rfl, hm⟩ := nat_of32 w0
  exact ⟨⟨m, y⟩, ⟨hm, w1⟩, by rw [e0, e1]; rfl⟩
set_option maxRecDepth 100000 in
theorem trod_pfxs {H : Type} {enc : TypeId × Value → H} {W : World} {fuel : Nat} {y : Value} {x : DataW H × List MemPlace}
    (hf : DataW.trod enc Tryd.prog W 0 (fun _ => true) true fuel 25 [y] = some x) (hlt : ∀ z ∈ x.2, z.block < W.heap.size) : ∃ l, Pfxs W y l := by
  obtain ⟨d, p⟩ := x
  have hC : Tryd.prog.cellsOf 24 = 2 := by kernel_rfl
  rcases Deep.open_slice Tryd.underlying25 hf with ⟨hcs, _⟩ | ⟨a, len, cap, m, n, D, Pl, hcs, _, hl, hm, hmm, hx, hc⟩
  · injection hcs with hcs
    subst hcs
    exact ⟨[], ⟨rfl, none, 0, rfl, Nat.le_refl _, by decide, fun h => absurd h (Nat.lt_irrefl 0)⟩, by simp [Oks]⟩
  · injection hcs with hcs
    subst hcs
    simp only [if_true] at hmm
    subst hmm
    simp only [Prod.mk.injEq] at hx
    obtain ⟨rfl, rfl⟩ := hx
    rw [hC] at hc
    have hk : ∀ i, ∃ s : Pf, s.ok ∧ (i < m → W.cells? 0 (a.add (i * 2)) 2 = some (pcell s)) := fun i => by
      by_cases hi : i < m
      · obtain ⟨cs', h1, h2⟩ := hc i hi
        obtain ⟨y0, y1, n', _, _, k0, k1⟩ := trod_struct2 Tryd.underlying24 h2
        obtain ⟨_, hlen, _⟩ := World.cells?_some h1
        match cs', hlen, h1, k0, k1 with
        | [c0, c1], _, h1, k0, k1 =>
          have e1 : Tryd.prog.cellsOf 3 = 1 := by kernel_rfl
          have e2 : Tryd.prog.cellsOf 22 = 1 := by kernel_rfl
          simp only [e1, e2] at k0 k1
          obtain ⟨s, hs, e⟩ := pfx_cells k0 k1
          exact ⟨s, hs, fun _ => by rw [h1, e]⟩
      · exact ⟨⟨0, 0⟩, ⟨by decide, by decide⟩, fun h => absurd h hi⟩
    obtain ⟨S, hS⟩ := Classical.axiomOfChoice hk
    have el : ((List.range len).map S).length = len := by simp
    refine ⟨(List.range len).map S, ⟨pcells_len _, some a, m, by rw [el], by rw [el]; exact hl, hm, fun h0 => ?_⟩, fun s hs => ?_⟩
    · rw [el] at h0
      obtain ⟨b, off, spot⟩ := a
      have c0 := (World.cells?_some ((hS 0).2 (by omega))).2.2
      have hspot : spot = none := by
        have h3 := c0 0 (by omega)
        have h4 : W.cell? (Addr.add ⟨b, off, spot⟩ (0 * 2) |>.add 0) = some (.int .u32 (S 0).a) := h3
        simpa [Addr.add] using World.cell?_spot h4
      subst hspot
      refine ⟨b, off, rfl, hlt (.cell b off) (List.mem_append.2 (.inl (MemPlace.mem_row.2 ⟨0, by rw [hC]; omega, by simp⟩))), fun j u hj => ?_⟩
      obtain ⟨i, s, r, rfl, hr4, hs, hu⟩ := pcells_of hj
      have hil : i < len := by
        have := (List.getElem?_eq_some_iff.1 hs).1
        simpa using this
      rw [List.getElem?_map, List.getElem?_range hil] at hs
      injection hs with hs
      have h3 := (World.cells?_some ((hS i).2 (by omega))).2.2 r hr4
      rw [add_plain, add_plain, hs, hu] at h3
      rw [← Nat.add_assoc]
      exact h3
    · obtain ⟨i, hi, rfl⟩ := List.mem_map.1 hs
      exact (hS i).1
set_option maxRecDepth 100000 in
theorem open_pfxs {H : Type} {enc : TypeId × Value → H} {W : World} {base : Nat} {v : Value} {d : DataW H} {p : List MemPlace}
    (hv : Value.okWide Tryd.prog W .any base 25 v) (h : DataW.Trod enc Tryd.prog W 0 (fun _ => true) true 25 v d p) (hlt : ∀ x ∈ p, x.block < W.heap.size) : ∃ l, Pfxs W v l := by
  obtain ⟨a0, len, cap, rfl⟩ := okWide_slice Tryd.underlying25 hv
  obtain ⟨fuel, hf⟩ := h
  exact trod_pfxs (x := (d, p)) (by simpa [Value.cells] using hf) hlt
end Go.Proofs.YtgjdpmpbldofpaaDoor.PR
