/- Two numbers, two small numbers, an act, and a slice of acts among a law's arguments. -/
import Derived.Test.YtifaclbafmpiiaaActMem
import Derived.Test.YtifaclbafmpiiaaLawFrameB
import Derived.Deep.SlicePairs
namespace Go.Proofs.Ytifaclbafmpiiaa.Tal
open Go.ChangeShapes Go.WideShapes Go.ChangeAt Go.RowKit Go.Joins Mem

theorem okWide_array {P : Program} {w : World} {r : Reach} {base n : Nat} {t e : TypeId} {v : Value} (ht : P.underlying t = some (.array n e)) (h : Value.okWide P w r base t v) : ∃ cs, v = .agg cs ∧ cs.size = P.cellsOf t := by
  simp only [Value.okWide, ht] at h
  obtain ⟨cs, h1, h2, _⟩ := h
  exact ⟨cs, h1, h2⟩
/-- An array of two cells, opened. -/
theorem open_two {H : Type} {enc : TypeId × Value → H} {P : Program} {W : World} {base : Nat} {t e : TypeId} {v : Value} {d : DataW H} {p : List MemPlace} (ht : P.underlying t = some (.array 2 e)) (hC : P.cellsOf t = 2) (hc : P.cellsOf e = 1)
    (hv : Value.okWide P W .any base t v) (h : DataW.Trod enc P W 0 (fun _ => true) true t v d p) :
    ∃ (v0 v1 : Value) (y0 y1 : DataW H × List MemPlace) (m : Nat), v = .agg #[v0, v1] ∧ DataW.trod enc P W 0 (fun _ => true) true m e [v0] = some y0 ∧ DataW.trod enc P W 0 (fun _ => true) true m e [v1] = some y1 := by
  obtain ⟨cs, rfl, hsz⟩ := okWide_array ht hv
  obtain ⟨c0, c1, rfl⟩ := array2 (hsz.trans hC)
  obtain ⟨fuel, hf⟩ := h
  obtain ⟨xs, m, _, hx, _, hl, hi⟩ := DataW.trod_array ht hf
  match xs, hl with
  | [y0, y1], _ =>
    have h0 := hi 0 (by omega)
    have h1 := hi 1 (by omega)
    simp [hc, Value.cells] at h0 h1
    exact ⟨c0, c1, y0, y1, m, rfl, h0, h1⟩
set_option maxRecDepth 100000 in
theorem open_ints2 {H : Type} {enc : TypeId × Value → H} {W : World} {base : Nat} {v : Value} {d : DataW H} {p : List MemPlace}
    (hv : Value.okWide Try.prog W .any base 48 v) (h : DataW.Trod enc Try.prog W 0 (fun _ => true) true 48 v d p) :
    ∃ a b : Int, v = .agg #[.int .i64 a, .int .i64 b] ∧ (Lit.int .i64 a).wf = true ∧ (Lit.int .i64 b).wf = true := by
  obtain ⟨v0, v1, y0, y1, m, rfl, h0, h1⟩ := open_two Try.underlying48 (by kernel_rfl) (by kernel_rfl) hv h
  obtain ⟨a, e0, _, wa⟩ := DataW.trod_int Try.underlying3 h0
  obtain ⟨b, e1, _, wb⟩ := DataW.trod_int Try.underlying3 h1
  injection e0 with e0
  injection e1 with e1
  exact ⟨a, b, by rw [e0, e1], wa, wb⟩
set_option maxRecDepth 100000 in
theorem open_bytes2 {H : Type} {enc : TypeId × Value → H} {W : World} {base : Nat} {v : Value} {d : DataW H} {p : List MemPlace}
    (hv : Value.okWide Try.prog W .any base 54 v) (h : DataW.Trod enc Try.prog W 0 (fun _ => true) true 54 v d p) :
    ∃ a b : Int, v = .agg #[.int .i8 a, .int .i8 b] ∧ (-128 ≤ a ∧ a ≤ 127) ∧ (-128 ≤ b ∧ b ≤ 127) := by
  obtain ⟨v0, v1, y0, y1, m, rfl, h0, h1⟩ := open_two Try.underlying54 (by kernel_rfl) (by kernel_rfl) hv h
  obtain ⟨a, e0, _, wa⟩ := DataW.trod_int Try.underlying53 h0
  obtain ⟨b, e1, _, wb⟩ := DataW.trod_int Try.underlying53 h1
  injection e0 with e0
  injection e1 with e1
  have m1 : IntKind.i8.min = -128 := by decide
  have m2 : IntKind.i8.max = 127 := by decide
  refine ⟨a, b, by rw [e0, e1], ?_, ?_⟩
  · simp [Lit.wf] at wa; omega
  · simp [Lit.wf] at wb; omega
theorem nat_of {x : Int} (h : (Lit.int .u32 x).wf = true) : ∃ k : Nat, x = (k : Int) ∧ k < 4294967296 := by
  have hb := bounds_u32 h
  obtain ⟨k, rfl⟩ := Int.eq_ofNat_of_zero_le hb.1
  exact ⟨k, rfl, by omega⟩
/-- The cells of an act, opened. -/
theorem act_cells {H : Type} {enc : TypeId × Value → H} {W : World} {n : Nat} {c0 c1 c2 c3 : Value} {y0 y1 y2 y3 : DataW H × List MemPlace} (h0 : DataW.trod enc Try.prog W 0 (fun _ => true) true n 3 [c0] = some y0) (h1 : DataW.trod enc Try.prog W 0 (fun _ => true) true n 23 [c1] = some y1)
    (h2 : DataW.trod enc Try.prog W 0 (fun _ => true) true n 3 [c2] = some y2) (h3 : DataW.trod enc Try.prog W 0 (fun _ => true) true n 3 [c3] = some y3) : ∃ a : Act, a.ok ∧ [c0, c1, c2, c3] = actCell a := by
  obtain ⟨k, e0, _, w0⟩ := DataW.trod_int Try.underlying3 h0
  obtain ⟨y, e1, _, w1⟩ := DataW.trod_int Try.underlying23 h1
  obtain ⟨u, e2, _, w2⟩ := DataW.trod_int Try.underlying3 h2
  obtain ⟨d, e3, _, w3⟩ := DataW.trod_int Try.underlying3 h3
  injection e0 with e0
  injection e1 with e1
  injection e2 with e2
  injection e3 with e3
  obtain ⟨m, rfl, hm⟩ := nat_of w1
  exact ⟨⟨k, m, u, d⟩, ⟨hm, w0, w2, w3⟩, by rw [e0, e1, e2, e3]; rfl⟩
set_option maxRecDepth 100000 in
theorem open_act {H : Type} {enc : TypeId × Value → H} {W : World} {base : Nat} {v : Value} {d : DataW H} {p : List MemPlace}
    (hv : Value.okWide Try.prog W .any base 28 v) (h : DataW.Trod enc Try.prog W 0 (fun _ => true) true 28 v d p) : ∃ a : Act, a.ok ∧ v = actV a := by
  obtain ⟨c0, c1, c2, c3, y0, y1, y2, y3, n, rfl, _, _, h0, h1, h2, h3⟩ := open_agg4 Try.underlying28 (by kernel_rfl) (by kernel_rfl) hv h
  obtain ⟨a, ha, e⟩ := act_cells h0 h1 h2 h3
  refine ⟨a, ha, ?_⟩
  simp only [actCell, List.cons.injEq, and_true] at e
  obtain ⟨rfl, rfl, rfl, rfl⟩ := e
  rfl
set_option maxRecDepth 100000 in
theorem open_acts {H : Type} {enc : TypeId × Value → H} {W : World} {base : Nat} {v : Value} {d : DataW H} {p : List MemPlace}
    (hv : Value.okWide Try.prog W .any base 22 v) (h : DataW.Trod enc Try.prog W 0 (fun _ => true) true 22 v d p) (hlt : ∀ x ∈ p, x.block < W.heap.size) : ∃ l, Acts W v l := by
  obtain ⟨a0, len, cap, rfl⟩ := okWide_slice Try.underlying22 hv
  obtain ⟨fuel, hf⟩ := h
  have hC : Try.prog.cellsOf 28 = 4 := by kernel_rfl
  rcases Deep.open_slice Try.underlying22 hf with ⟨hcs, _⟩ | ⟨a, len', cap', m, n, D, Pl, hcs, _, hl, hm, hmm, hx, hc⟩
  · simp [Value.cells] at hcs
    obtain ⟨rfl, rfl, rfl⟩ := hcs
    exact ⟨[], ⟨rfl, none, 0, rfl, Nat.le_refl _, by decide, fun h => absurd h (Nat.lt_irrefl 0)⟩, by simp⟩
  · simp [Value.cells] at hcs
    obtain ⟨rfl, rfl, rfl⟩ := hcs
    simp only [if_true] at hmm
    subst hmm
    simp only [Prod.mk.injEq] at hx
    obtain ⟨rfl, rfl⟩ := hx
    rw [hC] at hc
    have hk : ∀ i, ∃ s : Act, s.ok ∧ (i < m → W.cells? 0 (a.add (i * 4)) 4 = some (actCell s)) := fun i => by
      by_cases hi : i < m
      · obtain ⟨cs', h1, h2⟩ := hc i hi
        obtain ⟨y0, y1, y2, y3, n', _, _, k0, k1, k2, k3⟩ := trod_struct4 Try.underlying28 h2
        obtain ⟨_, hlen, _⟩ := World.cells?_some h1
        match cs', hlen, h1, k0, k1, k2, k3 with
        | [c0, c1, c2, c3], _, h1, k0, k1, k2, k3 =>
          have e1 : Try.prog.cellsOf 3 = 1 := by kernel_rfl
          have e2 : Try.prog.cellsOf 23 = 1 := by kernel_rfl
          simp only [e1, e2] at k0 k1 k2 k3
          obtain ⟨s, hs, e⟩ := act_cells k0 k1 k2 k3
          exact ⟨s, hs, fun _ => by rw [h1, e]⟩
      · exact ⟨⟨0, 0, 0, 0⟩, ⟨by decide, by decide, by decide, by decide⟩, fun h => absurd h hi⟩
    obtain ⟨S, hS⟩ := Classical.axiomOfChoice hk
    have el : ((List.range len).map S).length = len := by simp
    refine ⟨(List.range len).map S, ⟨actCells_len _, some a, m, by rw [el], by rw [el]; exact hl, hm, fun h0 => ?_⟩, fun s hs => ?_⟩
    · rw [el] at h0
      obtain ⟨b, off, spot⟩ := a
      have c0 := (World.cells?_some ((hS 0).2 (by omega))).2.2
      have hspot : spot = none := by
        have h3 := c0 0 (by omega)
        have h4 : W.cell? (Addr.add ⟨b, off, spot⟩ (0 * 4) |>.add 0) = some (.int .i64 (S 0).kind) := h3
        simpa [Addr.add] using World.cell?_spot h4
      subst hspot
      refine ⟨b, off, rfl, hlt (.cell b off) (List.mem_append.2 (.inl (MemPlace.mem_row.2 ⟨0, by rw [hC]; omega, by simp⟩))), fun j u hj => ?_⟩
      obtain ⟨i, s, r, rfl, hr4, hs, hu⟩ := actCells_of hj
      have hil : i < len := by
        have := (List.getElem?_eq_some_iff.1 hs).1
        simpa using this
      rw [List.getElem?_map, List.getElem?_range hil] at hs
      injection hs with hs
      have h3 := (World.cells?_some ((hS i).2 (by omega))).2.2 r hr4
      rw [add_plain, add_plain, hs, hu] at h3
      rw [← Nat.add_assoc]
      exact h3
    · obtain ⟨i, hi, rfl⟩ := List.mem_map.1 hs
      exact (hS i).1
end Go.Proofs.Ytifaclbafmpiiaa.Tal
