/- A slice of byte slices among a law's arguments. -/
import Derived.Test.YtgeekckoepnccaaFrmLists
import Derived.Test.YtgeekckoepnccaaOctOpenSlices
import Derived.Deep.Slices
namespace Go.Proofs.Ytgeekckoepnccaa.Frm
open Go.ChangeShapes Go.WideShapes Go.ChangeAt Go.RowKit Go.Joins Mem Oct

theorem cellsL8 : Try.prog.cellsOf 25 = 1 := by kernel_rfl
set_option maxRecDepth 100000 in
theorem trod_lists8 {H : Type} {enc : TypeId × Value → H} {W : World} {fuel : Nat} {y : Value} {x : DataW H × List MemPlace}
    (hf : DataW.trod enc Try.prog W 0 (fun _ => true) true fuel 22 [y] = some x) (hlt : ∀ z ∈ x.2, z.block < W.heap.size) : ∃ ls, Lists8 W y ls := by
  rcases Deep.open_slice1 Try.underlying22 cellsL8 hf with ⟨hcs, _⟩ | ⟨a, len, cap, m, n, V, D, Pl, hcs, _, hl, hm, hmm, hx, hc⟩
  · injection hcs with hcs
    subst hcs
    exact ⟨[], [], Row.nil W 1, rfl, fun k l x h => by simp at h⟩
  · injection hcs with hcs
    subst hcs
    subst hx
    simp only [if_true] at hmm
    subst hmm
    have hn : ∀ i, ∃ l : List Nat, i < m → U8s W (V i) l := fun i => by
      by_cases hi : i < m
      · obtain ⟨l, h⟩ := trod_u8s (hc i hi).2 (fun z hz => hlt z (List.mem_append.2 (.inr (List.mem_flatMap.2 ⟨i, List.mem_range.2 hi, hz⟩))))
        exact ⟨l, fun _ => h⟩
      · exact ⟨[], fun h => absurd h hi⟩
    obtain ⟨N, hN⟩ := Classical.axiomOfChoice hn
    have e1 : ((List.range len).map N).length = len := by simp
    refine ⟨(List.range len).map N, (List.range len).map V, ⟨by simp, some a, m, by rw [e1], by rw [e1]; exact hl, hm, fun h0 => ?_⟩, by simp, fun i l x h1 h2 => ?_⟩
    · rw [e1] at h0
      obtain ⟨b, off, spot⟩ := a
      have hspot : spot = none := by simpa [Addr.add] using World.cell?_spot (hc 0 (by omega)).1
      subst hspot
      refine ⟨b, off, rfl, hlt (.cell b off) (List.mem_append.2 (.inl (MemPlace.mem_row.2 ⟨0, by omega, by simp⟩))), fun j u hj => ?_⟩
      have hjl : j < len := by
        have := (List.getElem?_eq_some_iff.1 hj).1
        simpa using this
      have h3 := (hc j (by omega)).1
      rw [add_plain] at h3
      rw [List.getElem?_map, List.getElem?_range hjl] at hj
      injection hj with hj
      rw [h3, ← hj]
    · have hil : i < len := by
        have := (List.getElem?_eq_some_iff.1 h1).1
        simpa using this
      rw [List.getElem?_map, List.getElem?_range hil] at h1 h2
      injection h1 with h1
      injection h2 with h2
      rw [← h1, ← h2]
      exact hN i (by omega)
theorem open_lists8 {H : Type} {enc : TypeId × Value → H} {W : World} {base : Nat} {v : Value} {d : DataW H} {p : List MemPlace}
    (hv : Value.okWide Try.prog W .any base 22 v) (h : DataW.Trod enc Try.prog W 0 (fun _ => true) true 22 v d p) (hlt : ∀ x ∈ p, x.block < W.heap.size) : ∃ ls, Lists8 W v ls := by
  obtain ⟨a0, len, cap, rfl⟩ := okWide_slice Try.underlying22 hv
  obtain ⟨fuel, hf⟩ := h
  exact trod_lists8 (x := (d, p)) hf hlt
end Go.Proofs.Ytgeekckoepnccaa.Frm
