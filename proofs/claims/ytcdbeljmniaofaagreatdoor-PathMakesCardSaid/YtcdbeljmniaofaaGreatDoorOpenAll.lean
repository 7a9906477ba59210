/- A slice of numbers of 32 bits among the arguments. A path, two numbers, and two slices of numbers among a law's arguments. -/
import Derived.Test.YtcdbeljmniaofaaGreatDoorMem
import Derived.Test.YtcdbeljmniaofaaGreatDoorLawFrame
import Derived.ChangeSlices
import Derived.OpenShut
import Derived.ProofKit
import Derived.Test.YtcdbeljmniaofaaGreatDoorSegMem
import Derived.Deep.SlicePairs

/- A slice of numbers of 32 bits among the arguments. -/
namespace Go.Proofs.YtcdbeljmniaofaaGreatDoor.Nums
open Go.ChangeShapes Go.WideShapes Go.ChangeAt Go.RowKit Go.Joins Mem

theorem cells32 : Tryz.prog.cellsOf 29 = 1 := by kernel_rfl
set_option maxRecDepth 100000 in
/-- A cell that reads as a slice of numbers. -/
theorem trod_u32s {H : Type} {enc : TypeId × Value → H} {W : World} {fuel : Nat} {y : Value} {x : DataW H × List MemPlace}
    (hf : DataW.trod enc Tryz.prog W 0 (fun _ => true) true fuel 24 [y] = some x) (hlt : ∀ z ∈ x.2, z.block < W.heap.size) : ∃ l, U32s W y l := by
  rcases open_ints Tryz.underlying24 Tryz.underlying29 cells32 hf with ⟨hcs, hx⟩ | ⟨a, len, cap, zs, hcs, _, hl, hm, hz, hx, hcell, hwz⟩
  · injection hcs with hcs
    subst hcs
    exact ⟨[], U32s.nil W⟩
  · injection hcs with hcs
    subst hcs
    subst hx
    simp only [if_true] at hz
    refine ⟨(zs.take len).map Int.toNat, ?_, ?_⟩
    · have e1 : ((zs.take len).map Int.toNat).length = len := by rw [List.length_map, List.length_take]; omega
      refine ⟨by simp, some a, cap, by rw [e1], by rw [e1]; exact hl, hm, fun h0 => ?_⟩
      rw [e1] at h0
      obtain ⟨b, off, spot⟩ := a
      have hspot : spot = none := by simpa [Addr.add] using World.cell?_spot (hcell 0 (by omega))
      subst hspot
      refine ⟨b, off, rfl, hlt (.cell b off) (MemPlace.mem_row.2 ⟨0, by omega, by simp⟩), fun i x hi => ?_⟩
      rw [List.getElem?_map, List.getElem?_map] at hi
      cases hzi : (zs.take len)[i]? with
      | none => rw [hzi] at hi; cases hi
      | some z =>
        rw [hzi] at hi
        injection hi with hi
        subst hi
        have hil : i < len := by
          have := (List.getElem?_eq_some_iff.1 hzi).1
          rw [List.length_take] at this
          omega
        have hzz : zs[i]? = some z := by rwa [List.getElem?_take, if_pos hil] at hzi
        have h1 := hcell i (by omega)
        rw [add_plain] at h1
        have h2 := bounds_u32 (hwz z (List.mem_of_getElem? hzz))
        rw [h1, List.getD, hzz]
        simp only [Option.getD_some]
        congr 2
        omega
    · intro n hn
      obtain ⟨z, hz, rfl⟩ := List.mem_map.1 hn
      have := bounds_u32 (hwz z (List.mem_of_mem_take hz))
      omega
set_option maxRecDepth 100000 in
theorem open_u32s {H : Type} {enc : TypeId × Value → H} {W : World} {base : Nat} {v : Value} {d : DataW H} {p : List MemPlace}
    (hv : Value.okWide Tryz.prog W .any base 24 v) (h : DataW.Trod enc Tryz.prog W 0 (fun _ => true) true 24 v d p) (hlt : ∀ x ∈ p, x.block < W.heap.size) : ∃ l, U32s W v l := by
  obtain ⟨a0, len, cap, rfl⟩ := okWide_slice Tryz.underlying24 hv
  obtain ⟨fuel, hf⟩ := h
  exact trod_u32s (x := (d, p)) hf hlt
end Go.Proofs.YtcdbeljmniaofaaGreatDoor.Nums


/- A path, two numbers, and two slices of numbers among a law's arguments. -/
namespace Go.Proofs.YtcdbeljmniaofaaGreatDoor.Seg
open Go.ChangeShapes Go.WideShapes Go.ChangeAt Go.RowKit Go.Joins Mem Segm

theorem u32s_head {w : World} {v : Value} {l : List Nat} (h : U32s w v l) : ∃ A c, v = .slice A l.length c := let ⟨A, c, e, _⟩ := h.open_; ⟨A, c, e⟩

/-- What lies at a place of the pieces' cells. -/
theorem segCells_of : ∀ (j : Nat) (p : List Piece) (q : List Value) (u : Value), (segCells p q)[j]? = some u → ∃ i, (j = i * 2 ∧ ∃ s, p[i]? = some s ∧ u = .int .i64 s.1) ∨ (j = i * 2 + 1 ∧ i < p.length ∧ q[i]? = some u)
  | _, [], q, u, h => by simp [segCells] at h
  | _, _ :: _, [], u, h => by simp [segCells] at h
  | 0, s :: p, x :: q, u, h => by
    simp [segCells] at h
    exact ⟨0, .inl ⟨rfl, s, rfl, h.symm⟩⟩
  | 1, s :: p, x :: q, u, h => by
    simp [segCells] at h
    exact ⟨0, .inr ⟨rfl, by simp, by simp [h]⟩⟩
  | j + 2, s :: p, x :: q, u, h => by
    simp only [segCells, List.getElem?_cons_succ] at h
    obtain ⟨i, h1⟩ := segCells_of j p q u h
    refine ⟨i + 1, ?_⟩
    rcases h1 with ⟨h1, h2⟩ | ⟨h1, h2, h3⟩
    · exact .inl ⟨by omega, by simpa using h2⟩
    · exact .inr ⟨by omega, by simp; omega, by simpa using h3⟩

set_option maxRecDepth 100000 in
theorem open_segs {H : Type} {enc : TypeId × Value → H} {W : World} {base : Nat} {v : Value} {d : DataW H} {p : List MemPlace}
    (hv : Value.okWide Tryz.prog W .any base 22 v) (h : DataW.Trod enc Tryz.prog W 0 (fun _ => true) true 22 v d p) (hlt : ∀ x ∈ p, x.block < W.heap.size) : ∃ l, Segs W v l := by
  obtain ⟨a0, len, cap, rfl⟩ := okWide_slice Tryz.underlying22 hv
  obtain ⟨fuel, hf⟩ := h
  rcases Deep.open_slice_pairs Tryz.underlying22 Tryz.underlying36 (by kernel_rfl) rfl rfl (by kernel_rfl) (by kernel_rfl) hf with ⟨hcs, _⟩ | ⟨a, len', cap', m, n, V0, V1, D0, D1, P0, P1, hcs, _, hl, hm, hmm, hx, hc⟩
  · simp [Value.cells] at hcs
    obtain ⟨rfl, rfl, rfl⟩ := hcs
    exact ⟨[], [], ⟨rfl, none, 0, rfl, Nat.le_refl _, by decide, fun h => absurd h (Nat.lt_irrefl 0)⟩, Nums32.nil W⟩
  · simp [Value.cells] at hcs
    obtain ⟨rfl, rfl, rfl⟩ := hcs
    simp only [Prod.mk.injEq] at hx
    obtain ⟨rfl, rfl⟩ := hx
    simp only [if_true] at hmm
    subst hmm
    have hk : ∀ i, ∃ z : Int, i < m → V0 i = .int .i64 z := fun i => by
      by_cases hi : i < m
      · obtain ⟨z, e, _, _⟩ := DataW.trod_int Tryz.underlying3 (hc i hi).2.2.1
        injection e with e
        exact ⟨z, fun _ => e⟩
      · exact ⟨0, fun h => absurd h hi⟩
    have hn : ∀ i, ∃ l : List Nat, i < m → U32s W (V1 i) l := fun i => by
      by_cases hi : i < m
      · obtain ⟨l, h⟩ := Nums.trod_u32s (hc i hi).2.2.2 (fun z hz => hlt z (List.mem_append.2 (.inr (List.mem_flatMap.2 ⟨i, List.mem_range.2 hi, List.mem_append.2 (.inr hz)⟩))))
        exact ⟨l, fun _ => h⟩
      · exact ⟨[], fun h => absurd h hi⟩
    obtain ⟨K, hK⟩ := Classical.axiomOfChoice hk
    obtain ⟨N, hN⟩ := Classical.axiomOfChoice hn
    have e1 : ((List.range len).map fun i => ((K i, N i) : Piece)).length = len := by simp
    refine ⟨(List.range len).map fun i => (K i, N i), (List.range len).map V1, ⟨?_, some a, m, by rw [e1], by rw [e1]; exact hl, hm, fun h0 => ?_⟩, by simp, fun i s x h1 h2 => ?_⟩
    · rw [segCells_len _ _ (by simp)]
    · rw [e1] at h0
      obtain ⟨b, off, spot⟩ := a
      have hspot : spot = none := by simpa [Addr.add] using World.cell?_spot (hc 0 (by omega)).1
      subst hspot
      refine ⟨b, off, rfl, hlt (.cell b off) (List.mem_append.2 (.inl (MemPlace.mem_row.2 ⟨0, by omega, by simp⟩))), fun j u hj => ?_⟩
      obtain ⟨i, hi⟩ := segCells_of j _ _ u hj
      rcases hi with ⟨rfl, s, hs, rfl⟩ | ⟨rfl, _, hs⟩
      · have hil : i < len := by
          have := (List.getElem?_eq_some_iff.1 hs).1
          simpa using this
        have h3 := (hc i (by omega)).1
        rw [add_plain] at h3
        rw [h3, hK i (by omega)]
        rw [List.getElem?_map, List.getElem?_range hil] at hs
        injection hs with hs
        rw [← hs]
      · have hil : i < len := by
          have := (List.getElem?_eq_some_iff.1 hs).1
          simpa using this
        have h3 := (hc i (by omega)).2.1
        rw [add_plain, ← Nat.add_assoc] at h3
        rw [List.getElem?_map, List.getElem?_range hil] at hs
        injection hs with hs
        rw [← Nat.add_assoc, h3, ← hs]
    · have hil : i < len := by
        have := (List.getElem?_eq_some_iff.1 h1).1
        simpa using this
      rw [List.getElem?_map, List.getElem?_range hil] at h1 h2
      injection h1 with h1
      injection h2 with h2
      rw [← h1, ← h2]
      exact hN i (by omega)

theorem okWide_array {P : Program} {w : World} {r : Reach} {base n : Nat} {t e : TypeId} {v : Value} (ht : P.underlying t = some (.array n e)) (h : Value.okWide P w r base t v) : ∃ cs, v = .agg cs ∧ cs.size = P.cellsOf t := by
  simp only [Value.okWide, ht] at h
  obtain ⟨cs, h1, h2, _⟩ := h
  exact ⟨cs, h1, h2⟩
/-- An array of two cells, opened. -/
theorem open_two {H : Type} {enc : TypeId × Value → H} {P : Program} {W : World} {base : Nat} {t e : TypeId} {v : Value} {d : DataW H} {p : List MemPlace} (ht : P.underlying t = some (.array 2 e)) (hC : P.cellsOf t = 2) (hc : P.cellsOf e = 1)
    (hv : Value.okWide P W .any base t v) (h : DataW.Trod enc P W 0 (fun _ => true) true t v d p) :
    ∃ (v0 v1 : Value) (y0 y1 : DataW H × List MemPlace) (m : Nat), v = .agg #[v0, v1] ∧ p = y0.2 ++ y1.2 ∧ DataW.trod enc P W 0 (fun _ => true) true m e [v0] = some y0 ∧ DataW.trod enc P W 0 (fun _ => true) true m e [v1] = some y1 := by
  obtain ⟨cs, rfl, hsz⟩ := okWide_array ht hv
  obtain ⟨c0, c1, rfl⟩ := array2 (hsz.trans hC)
  obtain ⟨fuel, hf⟩ := h
  obtain ⟨xs, m, _, hx, _, hl, hi⟩ := DataW.trod_array ht hf
  match xs, hl with
  | [y0, y1], _ =>
    have h0 := hi 0 (by omega)
    have h1 := hi 1 (by omega)
    simp [hc, Value.cells] at h0 h1
    simp only [Prod.mk.injEq] at hx
    exact ⟨c0, c1, y0, y1, m, rfl, by simpa using hx.2, h0, h1⟩
set_option maxRecDepth 100000 in
theorem open_ints2 {H : Type} {enc : TypeId × Value → H} {W : World} {base : Nat} {v : Value} {d : DataW H} {p : List MemPlace}
    (hv : Value.okWide Tryz.prog W .any base 23 v) (h : DataW.Trod enc Tryz.prog W 0 (fun _ => true) true 23 v d p) :
    ∃ a b : Int, v = .agg #[.int .i64 a, .int .i64 b] ∧ (Lit.int .i64 a).wf = true ∧ (Lit.int .i64 b).wf = true := by
  obtain ⟨v0, v1, y0, y1, m, rfl, _, h0, h1⟩ := open_two Tryz.underlying23 (by kernel_rfl) (by kernel_rfl) hv h
  obtain ⟨a, e0, _, wa⟩ := DataW.trod_int Tryz.underlying3 h0
  obtain ⟨b, e1, _, wb⟩ := DataW.trod_int Tryz.underlying3 h1
  injection e0 with e0
  injection e1 with e1
  exact ⟨a, b, by rw [e0, e1], wa, wb⟩
set_option maxRecDepth 100000 in
theorem open_nums2 {H : Type} {enc : TypeId × Value → H} {W : World} {base : Nat} {v : Value} {d : DataW H} {p : List MemPlace}
    (hv : Value.okWide Tryz.prog W .any base 25 v) (h : DataW.Trod enc Tryz.prog W 0 (fun _ => true) true 25 v d p) (hlt : ∀ x ∈ p, x.block < W.heap.size) :
    ∃ (v0 v1 : Value) (l0 l1 : List Nat), v = .agg #[v0, v1] ∧ U32s W v0 l0 ∧ U32s W v1 l1 := by
  obtain ⟨v0, v1, y0, y1, m, rfl, rfl, h0, h1⟩ := open_two Tryz.underlying25 (by kernel_rfl) (by kernel_rfl) hv h
  obtain ⟨l0, k0⟩ := Nums.trod_u32s h0 (fun z hz => hlt z (List.mem_append.2 (.inl hz)))
  obtain ⟨l1, k1⟩ := Nums.trod_u32s h1 (fun z hz => hlt z (List.mem_append.2 (.inr hz)))
  exact ⟨v0, v1, l0, l1, rfl, k0, k1⟩
end Go.Proofs.YtcdbeljmniaofaaGreatDoor.Seg
