/- Words for memory: a slice of pieces of a path, each with a kind and numbers. It speaks of no function of the program. -/
import Derived.Test.YtgeekckoepnccaaMem
import Derived.Test.YtgeekckoepnccaaSegMath
namespace Go.Proofs.Ytgeekckoepnccaa.Mem
open Go.RowKit Segm

/-- The cells of pieces whose numbers lie in the slices q. -/
def segCells : List Piece → List Value → List Value
  | s :: p, x :: q => .int .i64 s.1 :: x :: segCells p q
  | _, _ => []
theorem segCells_len : ∀ (p : List Piece) (q : List Value), q.length = p.length → (segCells p q).length = p.length * 2
  | [], q, _ => by cases q <;> rfl
  | s :: p, [], h => by simp at h
  | s :: p, x :: q, h => by
    have := segCells_len p q (by simpa using h)
    simp only [segCells, List.length_cons, this]; omega
theorem segCells_append : ∀ (p : List Piece) (q : List Value) (p2 : List Piece) (q2 : List Value), q.length = p.length → segCells (p ++ p2) (q ++ q2) = segCells p q ++ segCells p2 q2
  | [], q, p2, q2, h => by
    cases q with
    | nil => rfl
    | cons a b => simp at h
  | s :: p, [], p2, q2, h => by simp at h
  | s :: p, x :: q, p2, q2, h => by
    have := segCells_append p q p2 q2 (by simpa using h)
    simp only [List.cons_append, segCells, this]
theorem segCells_take : ∀ (k : Nat) (p : List Piece) (q : List Value), (segCells p q).take (k * 2) = segCells (p.take k) (q.take k)
  | 0, p, q => by simp [segCells]
  | k + 1, [], q => by simp [segCells]
  | k + 1, s :: p, [] => by simp [segCells]
  | k + 1, s :: p, x :: q => by
    have := segCells_take k p q
    rw [show (k + 1) * 2 = k * 2 + 1 + 1 by omega]
    simp only [List.take_succ_cons, segCells, this]
theorem segCells_at : ∀ (k : Nat) (p : List Piece) (q : List Value) (s : Piece) (x : Value), p[k]? = some s → q[k]? = some x → (segCells p q)[k * 2]? = some (.int .i64 s.1) ∧ (segCells p q)[k * 2 + 1]? = some x
  | 0, s' :: p, x' :: q, s, x, h1, h2 => by
    simp at h1 h2
    subst h1 h2
    exact ⟨rfl, rfl⟩
  | k + 1, s' :: p, x' :: q, s, x, h1, h2 => by
    have := segCells_at k p q s x (by simpa using h1) (by simpa using h2)
    rw [show (k + 1) * 2 = k * 2 + 1 + 1 by omega]
    simpa [segCells] using this
  | 0, [], _, s, x, h1, _ => by simp at h1
  | 0, _ :: _, [], s, x, _, h2 => by simp at h2
  | k + 1, [], _, s, x, h1, _ => by simp at h1
  | k + 1, _ :: _, [], s, x, _, h2 => by simp at h2

/-- The slices q read as the pieces' numbers. -/
def Nums32 (w : World) (p : List Piece) (q : List Value) : Prop := q.length = p.length ∧ ∀ (k : Nat) (s : Piece) (x : Value), p[k]? = some s → q[k]? = some x → U32s w x s.2
theorem Nums32.keep {w w' : World} {p : List Piece} {q : List Value} (h : Nums32 w p q) (hb : Below w.heap.size w w') : Nums32 w' p q := ⟨h.1, fun k s x h1 h2 => (h.2 k s x h1 h2).keep hb⟩
theorem Nums32.nil (w : World) : Nums32 w [] [] := ⟨rfl, fun k s x h1 _ => by simp at h1⟩
theorem Nums32.append {w : World} {p p2 : List Piece} {q q2 : List Value} (h : Nums32 w p q) (h2 : Nums32 w p2 q2) : Nums32 w (p ++ p2) (q ++ q2) := by
  refine ⟨by simp [h.1, h2.1], fun k s x e1 e2 => ?_⟩
  by_cases hk : k < p.length
  · rw [List.getElem?_append_left hk] at e1
    rw [List.getElem?_append_left (by rw [h.1]; exact hk)] at e2
    exact h.2 k s x e1 e2
  · rw [List.getElem?_append_right (by omega)] at e1
    rw [List.getElem?_append_right (by rw [h.1]; omega), h.1] at e2
    exact h2.2 _ s x e1 e2
theorem Nums32.one {w : World} {s : Piece} {x : Value} (h : U32s w x s.2) : Nums32 w [s] [x] :=
  ⟨rfl, fun k s' x' h1 h2 => by
    match k, h1, h2 with
    | 0, h1, h2 => simp at h1 h2; subst h1 h2; exact h⟩
theorem Nums32.take {w : World} {p : List Piece} {q : List Value} (h : Nums32 w p q) (k : Nat) : Nums32 w (p.take k) (q.take k) := by
  refine ⟨by simp [h.1], fun j s x e1 e2 => ?_⟩
  rw [List.getElem?_take] at e1 e2
  split at e1
  · rename_i hj
    rw [if_pos hj] at e2
    exact h.2 j s x e1 e2
  · cases e1

/-- A slice of pieces. -/
def Segs (w : World) (v : Value) (p : List Piece) : Prop := ∃ q, Row w 2 v p.length (segCells p q) ∧ Nums32 w p q
/-- No numbers lie in the row itself. -/
def Apart (v : Value) (q : List Value) : Prop := ∀ x ∈ q, ∀ b off m c, x = .slice (some ⟨b, off, none⟩) m c → 0 < m → v.ownBlock ≠ some b
/-- .. in a row of the call's own. -/
def OwnSegs (t : TypeId) (base : Nat) (w : World) (v : Value) (p : List Piece) : Prop := ∃ q, w.ownsRow base t 2 v p.length (segCells p q) ∧ Nums32 w p q ∧ Apart v q
section
variable {w w' : World} {v : Value} {p : List Piece} {t : TypeId} {base : Nat}
theorem Segs.keep (h : Segs w v p) (hb : Below w.heap.size w w') : Segs w' v p := let ⟨q, h1, h2⟩ := h; ⟨q, h1.keep hb, h2.keep hb⟩
theorem OwnSegs.keep (h : OwnSegs t base w v p) (hb : Below w.heap.size w w') : OwnSegs t base w' v p := let ⟨q, h1, h2, h3⟩ := h; ⟨q, own_keep h1 hb, h2.keep hb, h3⟩
theorem OwnSegs.segs (h : OwnSegs t base w v p) : Segs w v p := let ⟨q, h1, h2, _⟩ := h; ⟨q, Row.of_own h1, h2⟩
theorem OwnSegs.nil (t : TypeId) (base : Nat) (w : World) : OwnSegs t base w (.slice none 0 0) [] := ⟨[], World.ownsRow_nil _ _ _ _, Nums32.nil w, fun x hx => by cases hx⟩
theorem OwnSegs.lower {base' : Nat} (h : OwnSegs t base' w v p) (hb : base ≤ base') : OwnSegs t base w v p := let ⟨q, h1, h2, h3⟩ := h; ⟨q, own_base h1 hb, h2, h3⟩
theorem OwnSegs.form (h : OwnSegs t base w v p) : ∃ A c, v = .slice A p.length c := let ⟨_, h1, _, _⟩ := h; own_form h1
theorem Segs.form (h : Segs w v p) : ∃ A c, v = .slice A p.length c ∧ p.length ≤ c ∧ c ≤ 9223372036854775807 := by
  obtain ⟨q, ⟨_, A, c, rfl, h1, h2, _⟩, _⟩ := h
  exact ⟨A, c, rfl, h1, h2⟩
/-- One piece: its kind's cell, its numbers' cell, its numbers. -/
theorem Segs.at_ {A : Option Addr} {n c k : Nat} {s : Piece} (h : Segs w (.slice A n c) p) (hk : p[k]? = some s) :
    ∃ b off x, A = some ⟨b, off, none⟩ ∧ b < w.heap.size ∧ w.cell? ⟨b, off + k * 2, none⟩ = some (.int .i64 s.1) ∧ w.cell? ⟨b, off + k * 2 + 1, none⟩ = some x ∧ U32s w x s.2 := by
  obtain ⟨q, ⟨hl, A', c', e, hn, hc, hr⟩, hq⟩ := h
  injection e with e1 e2 e3
  subst e1 e3
  have hlt : k < p.length := (List.getElem?_eq_some_iff.1 hk).1
  obtain ⟨b, off, rfl, hb, hcell⟩ := hr (by omega)
  have hx := List.getElem?_eq_getElem (show k < q.length by rw [hq.1]; exact hlt)
  obtain ⟨h1, h2⟩ := segCells_at k p q s _ hk hx
  exact ⟨b, off, _, rfl, hb, hcell _ _ h1, by rw [Nat.add_assoc]; exact hcell _ _ h2, hq.2 k s _ hk hx⟩
end
theorem Segs.nil_of {w : World} {v : Value} (h : Segs w v []) : ∃ A c, v = .slice A 0 c := let ⟨A, c, e, _, _⟩ := h.form; ⟨A, c, e⟩
/-- The first k pieces. -/
theorem Segs.front {w : World} {p : List Piece} {A : Option Addr} {n c k : Nat} (h : Segs w (.slice A n c) p) (hk : k ≤ p.length) : Segs w (.slice A k c) (p.take k) := by
  obtain ⟨q, hR, hq⟩ := h
  have hn : n = p.length := by
    obtain ⟨_, A', c', e, _⟩ := hR
    injection e
  subst hn
  refine ⟨q.take k, ?_, hq.take k⟩
  have := hR.prefix_ hk
  rw [segCells_take] at this
  rwa [List.length_take, Nat.min_eq_left hk]
/-- One piece in a block of its own, as it is laid ahead of an append. -/
theorem row_seg (w : World) (k : Int) (x : Value) (t : TypeId) : Row (w.alloc (.cells #[.int .i64 k, x] t)) 2 (.slice (some ⟨w.heap.size, 0, none⟩) 1 1) 1 [.int .i64 k, x] :=
  ⟨rfl, _, 1, rfl, Nat.le_refl _, by decide, fun _ => ⟨w.heap.size, 0, rfl, by simp, fun j u hj => by
    match j, hj with
    | 0, hj =>
      simp at hj
      subst hj
      simp
    | 1, hj =>
      simp at hj
      subst hj
      simp⟩⟩
theorem row_seg_at (w : World) (k : Int) (x : Value) (t : TypeId) {B : Nat} (hB : B = w.heap.size) : Row (w.alloc (.cells #[.int .i64 k, x] t)) 2 (.slice (some ⟨B, 0, none⟩) 1 1) 1 [.int .i64 k, x] := by subst hB; exact row_seg w k x t
/-- What a call gives: pieces in memory of its own; .. that can be read. -/
def GivesSegs (t : TypeId) (p : List Piece) (w : World) (e : Ending) (w' : World) : Prop := ∃ v, e = .returned v ∧ OwnSegs t w.heap.size w' v p ∧ Below w.heap.size w w'
def TellsSegs (p : List Piece) (w : World) (e : Ending) (w' : World) : Prop := ∃ v, e = .returned v ∧ Segs w' v p ∧ Below w.heap.size w w'
theorem TellsSegs.of_gives {t : TypeId} {p : List Piece} {w w' : World} {e : Ending} (h : GivesSegs t p w e w') : TellsSegs p w e w' := let ⟨v, h1, h2, h3⟩ := h; ⟨v, h1, h2.segs, h3⟩
/-- The cells of pieces are of one cell each. -/
theorem ones_segs : ∀ (p : List Piece) (q : List Value), (∀ x ∈ q, x.oneCell' = true) → ∀ u ∈ segCells p q, u.oneCell' = true
  | [], q, _, u, hu => by cases q <;> simp [segCells] at hu
  | s :: p, [], _, u, hu => by simp [segCells] at hu
  | s :: p, x :: q, h, u, hu => by
    simp only [segCells, List.mem_cons] at hu
    rcases hu with rfl | rfl | hu
    · rfl
    · exact h _ (by simp)
    · exact ones_segs p q (fun y hy => h y (by simp [hy])) u hu
theorem one_u32s {w : World} {v : Value} {l : List Nat} (h : U32s w v l) : v.oneCell' = true := by
  obtain ⟨A, c, rfl, _⟩ := h.open_
  rfl
theorem Nums32.ones {w : World} {p : List Piece} {q : List Value} (h : Nums32 w p q) : ∀ x ∈ q, x.oneCell' = true := fun x hx => by
  obtain ⟨k, hk, e⟩ := List.getElem_of_mem hx
  have hk2 : k < p.length := by rw [← h.1]; exact hk
  have h1 : p[k]? = some p[k] := List.getElem?_eq_getElem hk2
  exact one_u32s (h.2 k _ x h1 (by rw [List.getElem?_eq_getElem hk, e]))
theorem one_seg_len {x : Value} {k : Int} {l : List Nat} : segCells [(k, l)] [x] = [.int .i64 k, x] := rfl
/-- Where numbers lie. -/
theorem u32_lt {w : World} {b off m c : Nat} {l : List Nat} (h : U32s w (.slice (some ⟨b, off, none⟩) m c) l) (hm : 0 < m) : b < w.heap.size := by
  obtain ⟨⟨_, A, c', e, hn, _, hr⟩, _⟩ := h
  injection e with e1 e2 _
  obtain ⟨b', off', e3, hlt, _⟩ := hr (by omega)
  rw [e3] at e1
  injection e1 with e1
  injection e1 with e1
  omega
/-- What lies in other rows than the one that grows is kept. -/
theorem u32_kept {W X W' : World} {v1 v : Value} {l : List Nat} (hX : Below W.heap.size W X) (hg : X.grownBy W' v1.ownBlock) (h : U32s W v l)
    (hne : ∀ b off m c, v = .slice (some ⟨b, off, none⟩) m c → 0 < m → v1.ownBlock ≠ some b) : U32s W' v l := by
  obtain ⟨⟨hl, A, c, rfl, hn, hc, hr⟩, hb⟩ := h
  refine ⟨⟨hl, A, c, rfl, hn, hc, fun h0 => ?_⟩, hb⟩
  obtain ⟨b, off, rfl, hlt, hcell⟩ := hr h0
  have hlt2 : b < X.heap.size := Nat.lt_of_lt_of_le hlt hX.size
  have hsame := hg.block b hlt2 (fun e => hne b off _ c rfl h0 e.symm)
  refine ⟨b, off, rfl, Nat.lt_of_lt_of_le hlt2 hg.size, fun i x hx => ?_⟩
  rw [← hcell i x hx]
  exact World.cell?_of_block (hsame.trans (hX.block b hlt))
/-- PIECES MORE IN A ROW OF THE CALL's OWN: behind an append, whether it grew in its place or not. -/
theorem segs_grown {W X W' : World} {t : TypeId} {base L M c' : Nat} {v : Value} {A' : Option Addr} {p p2 : List Piece} {q q2 : List Value} (hX : Below W.heap.size W X) (hq : Nums32 W p q) (ha : Apart v q) (hq2 : Nums32 W p2 q2) (ha2 : Apart v q2)
    (hg : X.grownBy W' v.ownBlock) (hat : (Value.slice A' L c').ownBlock = v.ownBlock ∨ (Value.slice A' L c').ownBlock = some M) (hM : W.heap.size ≤ M) (hL : L = p.length + p2.length)
    (hown : W'.ownsRow base t 2 (.slice A' L c') L (segCells p q ++ segCells p2 q2)) : OwnSegs t base W' (.slice A' L c') (p ++ p2) := by
  have hall : Nums32 W (p ++ p2) (q ++ q2) := hq.append hq2
  have hap : Apart v (q ++ q2) := fun x hx => (List.mem_append.1 hx).elim (ha x) (ha2 x)
  have hin : ∀ x ∈ q ++ q2, ∃ s : Piece, U32s W x s.2 := fun x hx => by
    obtain ⟨k, hk, e⟩ := List.getElem_of_mem hx
    have hk2 : k < (p ++ p2).length := by rw [← hall.1]; exact hk
    exact ⟨(p ++ p2)[k], hall.2 k _ x (List.getElem?_eq_getElem hk2) (by rw [List.getElem?_eq_getElem hk, e])⟩
  refine ⟨q ++ q2, ?_, ⟨hall.1, fun k s x h1 h2 => u32_kept hX hg (hall.2 k s x h1 h2) (hap x (List.mem_of_getElem? h2))⟩, fun x hx b off m c e hm => ?_⟩
  · rw [segCells_append p q p2 q2 hq.1, List.length_append, ← hL]
    exact hown
  · rcases hat with h | h
    · rw [h]; exact hap x hx b off m c e hm
    · rw [h]
      obtain ⟨s, hs⟩ := hin x hx
      rw [e] at hs
      have := u32_lt hs hm
      intro e2
      injection e2 with e2
      omega
theorem segs_more {W W' : World} {o : Obj} {t : TypeId} {base L M c' : Nat} {v : Value} {A' : Option Addr} {p p2 : List Piece} {q q2 : List Value} (hq : Nums32 W p q) (ha : Apart v q) (hq2 : Nums32 W p2 q2) (ha2 : Apart v q2)
    (hg : (W.alloc o).grownBy W' v.ownBlock) (hat : (Value.slice A' L c').ownBlock = v.ownBlock ∨ (Value.slice A' L c').ownBlock = some M) (hM : W.heap.size ≤ M) (hL : L = p.length + p2.length)
    (hown : W'.ownsRow base t 2 (.slice A' L c') L (segCells p q ++ segCells p2 q2)) : OwnSegs t base W' (.slice A' L c') (p ++ p2) :=
  segs_grown ((Below.refl _ W).alloc (Nat.le_refl _) o) hq ha hq2 ha2 hg hat hM hL hown
theorem Apart.one {v x : Value} (h : ∀ b off m c, x = .slice (some ⟨b, off, none⟩) m c → 0 < m → v.ownBlock ≠ some b) : Apart v [x] := fun y hy => by
  rw [List.mem_singleton.1 hy]; exact h
/-- What a call's own row begins behind lies apart of whatever lay ahead. -/
theorem apart_old {w W : World} {t : TypeId} {base size n : Nat} {v : Value} {xs : List Value} {p : List Piece} {q : List Value} (h : W.ownsRow base t size v n xs) (hq : Nums32 w p q) (hb : w.heap.size ≤ base) : Apart v q := fun x hx b off m c e hm e2 => by
  obtain ⟨k, hk, e3⟩ := List.getElem_of_mem hx
  have hk2 : k < p.length := by rw [← hq.1]; exact hk
  have hu := hq.2 k _ x (List.getElem?_eq_getElem hk2) (by rw [List.getElem?_eq_getElem hk, e3])
  rw [e] at hu
  have h1 := u32_lt hu hm
  have h2 := (h.lt b e2).1
  omega
end Go.Proofs.Ytgeekckoepnccaa.Mem
