/- Words for memory: prefixes in a block of their own that is rewritten; what 'clear' leaves. It speaks of no function of the program. -/
import Derived.Test.YtgjdpmpbldofpaaDoorPfxGive
import Derived.Test.YtgjdpmpbldofpaaDoorOctMem
import Derived.Laws.IdiomCopy
import Derived.Lib.SliceRun
namespace Go.Proofs.YtgjdpmpbldofpaaDoor.PR
open Go.RowKit Mem Pfx Oct

/-- Prefixes in block g, which has room for cap. -/
def Blk (W : World) (g cap : Nat) (d : List Pf) : Prop :=
  d.length ≤ cap ∧ cap ≤ maxLen ∧ ∃ cur, W.heap[g]? = some (.cells cur 24 (0, 0)) ∧ cur.size = cap * 2 ∧ cur.toList.take (d.length * 2) = pcells d
section
variable {W W' : World} {g cap : Nat} {d l : List Pf}
theorem Blk.own (h : Blk W g cap d) {base : Nat} (hb : base ≤ g) : W.ownsRow base 24 2 (.slice (some ⟨g, 0, none⟩) d.length cap) d.length (pcells d) := by
  obtain ⟨h1, h2, cur, h3, h4, h5⟩ := h
  exact ⟨pcells_len d, .inr ⟨g, cap, cur, rfl, hb, h3, h1, h2, h4, h5⟩⟩
theorem own_blkcases {base : Nat} {A : Option Addr} {c : Nat} (h : W.ownsRow base 24 2 (.slice A l.length c) l.length (pcells l)) :
    (A = none ∧ c = 0 ∧ l = []) ∨ ∃ g, A = some ⟨g, 0, none⟩ ∧ base ≤ g ∧ Blk W g c l := by
  obtain ⟨_, h2⟩ := h
  rcases h2 with ⟨h2, h3⟩ | ⟨g, cap, cur, hv, hg, hh, h3, h4, h5, h6⟩
  · injection h2 with e1 e2 e3
    exact .inl ⟨e1, e3, List.eq_nil_of_length_eq_zero e2⟩
  · injection hv with e1 e2 e3
    subst e3
    exact .inr ⟨g, e1, hg, h3, h4, cur, hh, h5, h6⟩
theorem Blk.keep (h : Blk W g cap d) (hk : W'.heap[g]? = W.heap[g]?) : Blk W' g cap d := by
  obtain ⟨h1, h2, cur, h3, h4⟩ := h
  exact ⟨h1, h2, cur, hk.trans h3, h4⟩
theorem Blk.lt (h : Blk W g cap d) : g < W.heap.size := by
  obtain ⟨_, _, cur, h3, _⟩ := h
  exact (Array.getElem?_eq_some_iff.1 h3).1
theorem Blk.below (h : Blk W g cap d) (hb : Below W.heap.size W W') : Blk W' g cap d := h.keep (hb.block g h.lt)
theorem Blk.take (h : Blk W g cap d) {k : Nat} (hk : k ≤ d.length) : Blk W g cap (d.take k) := by
  obtain ⟨h1, h2, cur, h3, h4, h5⟩ := h
  have hl : (d.take k).length = k := by rw [List.length_take]; omega
  refine ⟨by omega, h2, cur, h3, h4, ?_⟩
  rw [hl, ← pcells_take, ← h5, List.take_take]
  congr 1
  omega
theorem Blk.cell (h : Blk W g cap d) {i : Nat} {p : Pf} (hi : d[i]? = some p) : W.cell? ⟨g, i * 2, none⟩ = some (.int .u32 p.a) ∧ W.cell? ⟨g, i * 2 + 1, none⟩ = some (.int .i64 p.n) := by
  obtain ⟨h1, h2, cur, h3, h4, h5⟩ := h
  have k : ∀ j u, (pcell p)[j]? = some u → W.cell? ⟨g, i * 2 + j, none⟩ = some u := fun j u hu => by
    have hj : j < 2 := by have := (List.getElem?_eq_some_iff.1 hu).1; simpa [pcell] using this
    have h6 := pcells_at i d p hi j u hu
    rw [← h5, List.getElem?_take] at h6
    split at h6
    · rw [cell_of_row W g (i * 2 + j) cur _ (0, 0) h3]
      simpa using h6
    · cases h6
  exact ⟨k 0 _ rfl, k 1 _ rfl⟩
theorem Blk.free (h : Blk W g cap d) (i : Nat) : W.frozen? ⟨g, i, none⟩ = false := by
  obtain ⟨_, _, cur, h3, _⟩ := h
  exact Go.Joins.unfrozen_of_block h3 i
theorem pcells_set : ∀ (d : List Pf) (i : Nat) (p : Pf), ((pcells d).set (i * 2) (.int .u32 p.a)).set (i * 2 + 1) (.int .i64 p.n) = pcells (d.set i p)
  | [], i, p => by simp [pcells]
  | q :: d, 0, p => by simp [pcells, pcell]
  | q :: d, i + 1, p => by
    have ih := pcells_set d i p
    rw [pcells_cons, List.set_cons_succ, pcells_cons, ← ih]
    simp only [pcell, List.cons_append, List.nil_append]
    rw [show (i + 1) * 2 = i * 2 + 1 + 1 by omega, List.set_cons_succ, List.set_cons_succ, List.set_cons_succ, List.set_cons_succ]
theorem Blk.set (h : Blk W g cap d) {i : Nat} (p : Pf) : Blk ((W.setCell ⟨g, i * 2, none⟩ (.int .u32 p.a)).setCell ⟨g, i * 2 + 1, none⟩ (.int .i64 p.n)) g cap (d.set i p) := by
  obtain ⟨h1, h2, cur, h3, h4, h5⟩ := h
  refine ⟨by rw [List.length_set]; exact h1, h2, _, Go.Joins.block_setCell (Go.Joins.block_setCell h3 _) _, by simp [h4], ?_⟩
  rw [List.length_set, Array.toList_setIfInBounds, Array.toList_setIfInBounds, List.take_set, List.take_set, h5]
  exact pcells_set d i p
/-- Cells stored from o on: what stands ahead stays. -/
theorem set_cells : ∀ (vs : List Value) (o : Nat) (W : World) {cur : Array Value} {t : TypeId}, W.heap[g]? = some (.cells cur t (0, 0)) →
    (∃ cur', (W.setCells g o vs).heap[g]? = some (.cells cur' t (0, 0)) ∧ cur'.size = cur.size ∧ cur'.toList.take o = cur.toList.take o) ∧ Only (fun k => k = g) W (W.setCells g o vs)
  | [], o, W, cur, t, h => ⟨⟨cur, h, rfl, rfl⟩, Only.refl _ _⟩
  | v :: r, o, W, cur, t, h => by
    obtain ⟨⟨cur', h1, h2, h3⟩, h4⟩ := set_cells r (o + 1) (W.setCell ⟨g, o, none⟩ v) (Go.Joins.block_setCell h v)
    refine ⟨⟨cur', h1, by simpa using h2, ?_⟩, (Only.set (F := fun k => k = g) (b := g) (Only.refl _ W) rfl v).trans h4⟩
    have h5 := congrArg (List.take o) h3
    rw [List.take_take, List.take_take, show min o (o + 1) = o by omega, Array.toList_setIfInBounds] at h5
    rw [h5, List.take_set_of_le (Nat.le_refl _)]
theorem Blk.cleared (h : Blk W g cap d) {k : Nat} (hk : k ≤ d.length) (vs : List Value) : Blk (W.setCells g (k * 2) vs) g cap (d.take k) ∧ Only (fun j => j = g) W (W.setCells g (k * 2) vs) := by
  have h0 := h.take hk
  obtain ⟨h1, h2, cur, h3, h4, h5⟩ := h0
  obtain ⟨⟨cur', k1, k2, k3⟩, k4⟩ := set_cells vs (k * 2) W h3
  have hl : (d.take k).length = k := by rw [List.length_take]; omega
  refine ⟨⟨h1, h2, cur', k1, by rw [k2, h4], ?_⟩, k4⟩
  rw [hl] at h5 ⊢
  rw [k3, h5]
end
/-- 'clear' of elements of several cells: cells are stored from there on. -/
theorem run_clear_row (P : Program) (w : World) (t e ty : TypeId) (z : Value) (ht : P.underlying t = some (.slice e)) (hv : ∀ w, (zeroValue e).run P w = .ok z w) (h1 : ∀ u ∈ z.cells.toList, u.oneCell' = true) (b o n c : Nat)
    (hc : ∀ j, j < n * z.cells.size → (w.cell? ⟨b, o + j, none⟩).isSome = true) (hf : ∀ j, w.frozen? ⟨b, j, none⟩ = false) (hn : 0 < n) :
    (Builtin.clear_ #[t] ty #[.slice (some ⟨b, o, none⟩) n c]).run P w = .ok (.tuple #[]) (w.setCells b o (Builtin.zeroCells z.cells n).toList) := by
  have hlen : (Builtin.zeroCells z.cells n).toList.length = n * z.cells.size := by simp [Builtin.zeroCells]
  have hst := run_storeCells_cells (P := P) b o (Builtin.zeroCells z.cells n).toList 0 w (by rw [hlen]; simpa using hc) (fun j _ => hf _) (by
    intro v hv'
    simp only [Builtin.zeroCells, Array.toList_map, List.mem_map] at hv'
    obtain ⟨i, hi, rfl⟩ := hv'
    have hi' : i < n * z.cells.size := by simpa using hi
    have hpos : 0 < z.cells.size := by
      rcases Nat.eq_zero_or_pos z.cells.size with h | h
      · rw [h] at hi'; omega
      · exact h
    have hlt : i % z.cells.size < z.cells.size := Nat.mod_lt _ hpos
    rw [getElem!_pos z.cells _ hlt]
    exact h1 _ (by simp))
  simp only [Nat.add_zero] at hst
  obtain ⟨m, rfl⟩ : ∃ m, n = m + 1 := ⟨n - 1, by omega⟩
  simp [Builtin.clear_, run_underlying ht, hv, hst]
/-- A condition that hangs on the blocks below B alone. -/
def Kp (K : World → Prop) (B : Nat) : Prop := ∀ W W', (∀ k, k < B → W'.heap[k]? = W.heap[k]?) → K W → K W'
theorem Kp.below {K : World → Prop} {B : Nat} (h : Kp K B) {W W' : World} (hb : Below B W W') (hk : K W) : K W' := h W W' (fun k hk => hb.block k hk) hk
/-- Prefixes in memory from base on. -/
def GivesAt (base : Nat) (l : List Pf) (w : World) (e : Ending) (w' : World) : Prop :=
  ∃ A c, e = .returned (.slice A l.length c) ∧ w'.ownsRow base 24 2 (.slice A l.length c) l.length (pcells l) ∧ Below base w w'
end Go.Proofs.YtgjdpmpbldofpaaDoor.PR
