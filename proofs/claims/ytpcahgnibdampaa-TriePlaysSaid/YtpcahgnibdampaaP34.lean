/- A slice of acts on a tree among a law's arguments. -/
import Derived.Test.YtpcahgnibdampaaP10
import Derived.Test.YtpcahgnibdampaaP33
namespace Go.Proofs.Ytpcahgnibdampaa.Tri
open Go.ChangeShapes Go.WideShapes Go.ChangeAt Go.RowKit Go.Joins Mem PR Pfx
theorem acells_len (l : List Ac) : (acells l).length = l.length * 4 := by
  induction l with
  | nil => rfl
  | cons e l h => rw [acells_cons, List.length_append, h]; simp [acell]; omega
theorem acells_of : ∀ (l : List Ac) (j : Nat) (u : Value), (acells l)[j]? = some u → ∃ i s r, j = i * 4 + r ∧ r < 4 ∧ l[i]? = some s ∧ (acell s)[r]? = some u
  | [], j, u, h => by simp [acells] at h
  | e :: l, j, u, h => by
    rw [acells_cons] at h
    by_cases hj : j < 4
    · rw [List.getElem?_append_left (by simpa [acell] using hj)] at h
      exact ⟨0, e, j, by omega, hj, rfl, h⟩
    · rw [List.getElem?_append_right (by simp [acell]; omega)] at h
      obtain ⟨i, s, r, h1, h2, h3, h4⟩ := acells_of l _ u h
      have e4 : (acell e).length = 4 := rfl
      rw [e4] at h1
      exact ⟨i + 1, s, r, by omega, h2, by simpa using h3, h4⟩
theorem cells_act : Try.prog.cellsOf 32 = 4 := by kernel_rfl
theorem list4 {α : Type} {cs : List α} (h : cs.length = 4) : ∃ c0 c1 c2 c3, cs = [c0, c1, c2, c3] := by
  match cs, h with
  | [c0, c1, c2, c3], _ => exact ⟨c0, c1, c2, c3, rfl⟩
set_option maxRecDepth 100000 in
theorem trod_act {H : Type} {enc : TypeId × Value → H} {W : World} {fuel : Nat} {c0 c1 c2 c3 : Value} {y : DataW H × List MemPlace}
    (hf : DataW.trod enc Try.prog W 0 (fun _ => true) true fuel 32 [c0, c1, c2, c3] = some y) : ∃ a : Ac, a.ok ∧ [c0, c1, c2, c3] = acell a := by
  obtain ⟨d, p⟩ := y
  obtain ⟨xs, n, _, hx, _, hl, hfs⟩ := DataW.trod_struct Try.underlying32 hf
  have hln : xs.length = 3 := hl
  obtain ⟨y0, e0⟩ : ∃ y, xs[0]? = some y := ⟨_, List.getElem?_eq_getElem (by omega)⟩
  have k0 : DataW.trod enc Try.prog W 0 (fun _ => true) true n 3 [c0] = some y0 := (hfs 0 _ rfl).trans e0
  obtain ⟨y1, e1⟩ : ∃ y, xs[1]? = some y := ⟨_, List.getElem?_eq_getElem (by omega)⟩
  have k1 : DataW.trod enc Try.prog W 0 (fun _ => true) true n 3 [c1] = some y1 := (hfs 1 _ rfl).trans e1
  obtain ⟨y2, e2⟩ : ∃ y, xs[2]? = some y := ⟨_, List.getElem?_eq_getElem (by omega)⟩
  have k2 : DataW.trod enc Try.prog W 0 (fun _ => true) true n 25 [c2, c3] = some y2 := (hfs 2 _ rfl).trans e2
  obtain ⟨k, g0, _, w0⟩ := DataW.trod_int Try.underlying3 k0
  obtain ⟨x, g1, _, w1⟩ := DataW.trod_int Try.underlying3 k1
  obtain ⟨z0, z1, n', _, _, q0, q1⟩ := trod_struct2 Try.underlying25 k2
  have r1 : Try.prog.cellsOf 3 = 1 := by kernel_rfl
  have r2 : Try.prog.cellsOf 23 = 1 := by kernel_rfl
  simp only [r1, r2] at q0 q1
  obtain ⟨q, hq, e⟩ := pfx_cells q0 q1
  injection g0 with g0
  injection g1 with g1
  simp only [pcell, List.cons.injEq, and_true] at e
  obtain ⟨rfl, rfl⟩ := e
  exact ⟨⟨k, x, q⟩, ⟨w0, w1, hq⟩, by rw [g0, g1]; rfl⟩
set_option maxRecDepth 100000 in
theorem open_acts {H : Type} {enc : TypeId × Value → H} {W : World} {base : Nat} {v : Value} {d : DataW H} {p : List MemPlace}
    (hv : Value.okWide Try.prog W .any base 22 v) (h : DataW.Trod enc Try.prog W 0 (fun _ => true) true 22 v d p) (hlt : ∀ x ∈ p, x.block < W.heap.size) : ∃ l, Acts W v l := by
  obtain ⟨a0, len, cap, rfl⟩ := okWide_slice Try.underlying22 hv
  obtain ⟨fuel, hf⟩ := h
  rcases Deep.open_slice Try.underlying22 hf with ⟨hcs, _⟩ | ⟨a, len', cap', m, n, D, Pl, hcs, _, hl, hm, hmm, hx, hc⟩
  · simp [Value.cells] at hcs
    obtain ⟨rfl, rfl, rfl⟩ := hcs
    exact ⟨[], ⟨rfl, none, 0, rfl, Nat.le_refl _, by decide, fun h => absurd h (Nat.lt_irrefl 0)⟩, by simp⟩
  · simp [Value.cells] at hcs
    obtain ⟨rfl, rfl, rfl⟩ := hcs
    simp only [if_true] at hmm
    subst hmm
    simp only [Prod.mk.injEq] at hx
    obtain ⟨rfl, rfl⟩ := hx
    rw [cells_act] at hc
    have hk : ∀ i, ∃ s : Ac, s.ok ∧ (i < m → W.cells? 0 (a.add (i * 4)) 4 = some (acell s)) := fun i => by
      by_cases hi : i < m
      · obtain ⟨cs', h1, h2⟩ := hc i hi
        obtain ⟨_, hlen, _⟩ := World.cells?_some h1
        obtain ⟨c0, c1, c2, c3, rfl⟩ := list4 hlen
        obtain ⟨s, hs, e⟩ := trod_act h2
        exact ⟨s, hs, fun _ => by rw [h1, e]⟩
      · exact ⟨⟨0, 0, 0, 0⟩, ⟨by decide, by decide, by decide, by decide⟩, fun h => absurd h hi⟩
    obtain ⟨S, hS⟩ := Classical.axiomOfChoice hk
    have el : ((List.range len).map S).length = len := by simp
    refine ⟨(List.range len).map S, ⟨acells_len _, some a, m, by rw [el], by rw [el]; exact hl, hm, fun h0 => ?_⟩, fun s hs => ?_⟩
    · rw [el] at h0
      obtain ⟨b, off, spot⟩ := a
      have c0 := (World.cells?_some ((hS 0).2 (by omega))).2.2
      have hspot : spot = none := by
        have h3 := c0 0 (by omega)
        have h4 : W.cell? (Addr.add ⟨b, off, spot⟩ (0 * 4) |>.add 0) = some (.int .i64 (S 0).k) := h3
        simpa [Addr.add] using World.cell?_spot h4
      subst hspot
      refine ⟨b, off, rfl, hlt (.cell b off) (List.mem_append.2 (.inl (MemPlace.mem_row.2 ⟨0, by rw [cells_act]; omega, by simp⟩))), fun j u hj => ?_⟩
      obtain ⟨i, s, r, rfl, hr4, hs, hu⟩ := acells_of _ _ _ hj
      have hil : i < len := by
        have := (List.getElem?_eq_some_iff.1 hs).1
        simpa using this
      rw [List.getElem?_map, List.getElem?_range hil] at hs
      injection hs with hs
      have h3 := (World.cells?_some ((hS i).2 (by omega))).2.2 r hr4
      rw [add_plain, add_plain, hs, hu] at h3
      rw [← Nat.add_assoc]
      exact h3
    · obtain ⟨i, hi, rfl⟩ := List.mem_map.1 hs
      exact (hS i).1
end Go.Proofs.Ytpcahgnibdampaa.Tri
