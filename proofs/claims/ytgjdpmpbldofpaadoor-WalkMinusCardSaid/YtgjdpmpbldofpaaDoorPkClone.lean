/- slices.Clone, slices.IndexFunc at prefixes. -/
import Derived.Test.YtgjdpmpbldofpaaDoorPkMem
namespace Go.Proofs.YtgjdpmpbldofpaaDoor.PR
open Go.RowKit Mem Pfx Oct

theorem own_nil2 (w : World) (base : Nat) : w.ownsRow base 24 2 (.slice none 0 0) 0 (pcells []) := ⟨rfl, .inl ⟨rfl, rfl⟩⟩
set_option maxHeartbeats 1000000 in
theorem pclone_any (v : Value) (l : List Pf) (w : World) (hv : Pfxs w v l) (hl : l.length ≤ 100000) : Calls Tryd.prog 51 #[v] w (GivesP l w) := by
  obtain ⟨i0, E0⟩ := elemP
  obtain ⟨A, c, rfl, hlc, hc⟩ := hv.form
  have HV := Go.Lib.hid hv
  have h0 : (w.alloc (.cells #[] 24)).ownsRow w.heap.size 24 2 (.slice (some ⟨w.heap.size, 0, none⟩) 0 0) 0 (pcells []) := own_blk2 (Nat.le_refl _) (heap_alloc_new _ _)
  have H0 := Go.Lib.hid h0
  have HR := Go.Lib.hid ((hv.keep ((Below.refl _ w).alloc (Nat.le_refl _) (.cells #[] 24))).1)
  have HB := Go.Lib.hid (Below.refl w.heap.size w)
  have q8 : ∀ (W : World) (a : Option Addr) (n c n' c' : Nat), (binOp .eql 25 (.slice a n c) (.slice none n' c')).run Tryd.prog W = .ok (.bool a.isNone) W := fun W a n c n' c' => Lib.run_eql_slice_nil W _ _ a n c n' c' Tryd.underlying25
  clear hv h0
  cases A with
  | none =>
    obtain rfl : l = [] := by
      obtain ⟨⟨_, _, _, e, _, _, hr⟩, _⟩ := HV.out
      injection e with e1 e2 e3
      subst e1
      rcases Nat.eq_zero_or_pos l.length with h | h
      · exact List.eq_nil_of_length_eq_zero h
      · obtain ⟨_, _, h0, _⟩ := hr h
        cases h0
    go_enter Tryd.func51, Tryd.ntmps51
    go_wp2
    go_ret
    exact ⟨none, 0, rfl, own_nil2 _ _, HB.out⟩
  | some ad =>
    go_enter Tryd.func51, Tryd.ntmps51
    go_wp2_with (at_builtin; refine wpList_append_row rfl (.tmp 5) (.tmp 6) rfl E0 w.heap.size _ 0 _ rfl H0.out _ l.length (pcells l) rfl HR.out (ones_p _) (by unfold maxLen; omega) (by omega) (by simp) (l.length) (Nat.zero_add _) ?_; intro A1 c1 w1 hown1 hg1 hat1 hb1; have HO := Go.Lib.hid hown1; have HB1 := Go.Lib.hid hb1; clear hown1 hg1 hat1 hb1)
    go_ret
    refine ⟨_, _, rfl, HO.out, ?_⟩
    exact ((Below.refl _ w).alloc (Nat.le_refl _) _).trans HB1.out
def placeOf (P : Pf → Bool) (l : List Pf) : Int := match l.findIdx? P with
  | some i => i
  | none => -1
theorem place_none {P : Pf → Bool} {l : List Pf} (h : ∀ q ∈ l, P q = false) : placeOf P l = -1 := by
  unfold placeOf
  rw [List.findIdx?_eq_none_iff.2 h]
theorem place_some {P : Pf → Bool} {l : List Pf} {i : Nat} {p : Pf} (hi : l[i]? = some p) (hp : P p = true) (h : ∀ q ∈ l.take i, P q = false) : placeOf P l = i := by
  unfold placeOf
  have hlt := (List.getElem?_eq_some_iff.1 hi).1
  have e : l.findIdx? P = some i := by
    rw [List.findIdx?_eq_some_iff_getElem]
    refine ⟨hlt, ?_, fun j hj => ?_⟩
    · have := (List.getElem?_eq_some_iff.1 hi).2
      rw [this]; exact hp
    · have := h l[j] (by
        rw [List.mem_take_iff_getElem]
        exact ⟨j, by omega, rfl⟩)
      simp [this]
  rw [e]
theorem place_cases (P : Pf → Bool) (l : List Pf) : (placeOf P l = -1 ∧ ∀ q ∈ l, P q = false) ∨ ∃ i : Nat, placeOf P l = (i : Int) ∧ i < l.length ∧ (∀ q ∈ l.take i, P q = false) ∧ ∃ p, l[i]? = some p ∧ P p = true := by
  cases h : l.findIdx? P with
  | none =>
    refine .inl ⟨by unfold placeOf; rw [h], ?_⟩
    exact List.findIdx?_eq_none_iff.1 h
  | some i =>
    obtain ⟨h1, h2, h3⟩ := List.findIdx?_eq_some_iff_getElem.1 h
    refine .inr ⟨i, by unfold placeOf; rw [h], h1, fun q hq => ?_, l[i], List.getElem?_eq_getElem h1, h2⟩
    obtain ⟨j, hj, rfl⟩ := List.mem_take_iff_getElem.1 hq
    have := h3 j (by omega)
    simpa using this
theorem filter_start {P : Pf → Bool} {l : List Pf} {i : Nat} (hz : ∀ q ∈ l.take i, P q = false) (hn : ∃ p, l[i]? = some p ∧ P p = true) : l.take i = (l.take (i + 1)).filter (fun p => !P p) := by
  obtain ⟨p, hp, hP⟩ := hn
  rw [List.take_add_one, hp, List.filter_append]
  have e : (l.take i).filter (fun p => !P p) = l.take i := List.filter_eq_self.2 (fun q hq => by rw [hz q hq]; rfl)
  rw [e]
  simp [hP]
theorem take_set_at {d : List Pf} {i : Nat} {p : Pf} (hi : i < d.length) : (d.set i p).take (i + 1) = d.take i ++ [p] := by
  rw [List.take_add_one, List.take_set_of_le (Nat.le_refl _), List.getElem?_set_self hi]; rfl
theorem blk_old {W : World} {g cap : Nat} {d : List Pf} (h : Blk W g cap d) {i : Nat} (hi : i < d.length) : (∃ x, W.cell? ⟨g, i * 2, none⟩ = some x) ∧ ∃ x, W.cell? ⟨g, i * 2 + 1, none⟩ = some x := by
  have h1 := h.cell (List.getElem?_eq_getElem hi)
  exact ⟨⟨_, h1.1⟩, ⟨_, h1.2⟩⟩
theorem blk_store {W W' : World} {g cap : Nat} {d : List Pf} (h : Blk W g cap d) (hb : Below W.heap.size W W') {i : Nat} (hi : i < d.length) :
    ∃ x, W'.cell? ⟨g, i * 2, none⟩ = some x ∧ ∃ y, (∀ u, (W'.setCell ⟨g, i * 2, none⟩ u).cell? ⟨g, i * 2 + 1, none⟩ = some y) ∧ W'.frozen? ⟨g, i * 2, none⟩ = false ∧ ∀ u, (W'.setCell ⟨g, i * 2, none⟩ u).frozen? ⟨g, i * 2 + 1, none⟩ = false := by
  have h2 := h.below hb
  have h3 := h2.cell (List.getElem?_eq_getElem hi)
  refine ⟨.int .u32 d[i].a, h3.1, .int .i64 d[i].n, fun u => ?_, h2.free _, fun u => ?_⟩
  · rw [World.cell?_setCell_other _ _ _ _ (by intro e; injection e with e1 e2; omega)]
    exact h3.2
  · obtain ⟨_, _, cur, h4, _⟩ := h2
    exact Go.Joins.unfrozen_of_block (Go.Joins.block_setCell h4 u) _
theorem blk_clear {w W : World} {g cap base : Nat} {d : List Pf} (h : Blk W g cap d) {i L : Nat} (hi : i ≤ d.length) (hg : base ≤ g) (hb : Below base w W) (hL : L = d.length) (hlt : i < L) :
    ∃ W', (∀ ty, (Builtin.clear_ #[25] ty #[.slice (some ⟨g, i * 2, none⟩) (L - i) (cap - i)]).run Tryd.prog W = .ok (.tuple #[]) W') ∧ Blk W' g cap (d.take i) ∧ Below base w W' := by
  subst hL
  obtain ⟨h1, h2⟩ := h.cleared hi (Builtin.zeroCells #[.int .u32 0, .int .i64 0] (d.length - i)).toList
  refine ⟨_, fun ty => run_clear_row Tryd.prog W 25 24 ty (.agg #[.int .u32 0, .int .i64 0]) Tryd.underlying25 (fun w => Tryd.zeroValue24 w) (fun u hu => ?_) g (i * 2) (d.length - i) (cap - i) (fun j hj => ?_) (fun j => h.free j) (by omega), h1, hb.trans (h2.below (fun k hk => by rw [hk]; exact hg) (Nat.le_trans hg (Nat.le_of_lt h.lt)))⟩
  · simp [Value.cells] at hu
    rcases hu with rfl | rfl <;> rfl
  · have hj2 : j < (d.length - i) * 2 := by simpa [Value.cells] using hj
    obtain ⟨q, hq⟩ : ∃ q, d[i + j / 2]? = some q := ⟨_, List.getElem?_eq_getElem (by omega)⟩
    have h3 := h.cell hq
    rcases Nat.mod_two_eq_zero_or_one j with e | e
    · rw [show i * 2 + j = (i + j / 2) * 2 by omega, h3.1]; rfl
    · rw [show i * 2 + j = (i + j / 2) * 2 + 1 by omega, h3.2]; rfl
end Go.Proofs.YtgjdpmpbldofpaaDoor.PR
