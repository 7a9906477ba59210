/- Words for memory: a slice of messages, each with a type and a body. It speaks of no function of the program. -/
import Derived.Test.YtgeekckoepnccaaOctMem
import Derived.Test.YtgeekckoepnccaaFrmMath
namespace Go.Proofs.Ytgeekckoepnccaa.Frm
open Go.RowKit Mem Oct

/-- The cells of pieces whose bytes lie in the slices q. -/
def frmCells : List Pc → List Value → List Value
  | s :: p, x :: q => .int .i64 (s.1 : Nat) :: x :: frmCells p q
  | _, _ => []
theorem frmCells_len : ∀ (p : List Pc) (q : List Value), q.length = p.length → (frmCells p q).length = p.length * 2
  | [], q, _ => by cases q <;> rfl
  | s :: p, [], h => by simp at h
  | s :: p, x :: q, h => by
    have := frmCells_len p q (by simpa using h)
    simp only [frmCells, List.length_cons, this]; omega
theorem frmCells_append : ∀ (p : List Pc) (q : List Value) (p2 : List Pc) (q2 : List Value), q.length = p.length → frmCells (p ++ p2) (q ++ q2) = frmCells p q ++ frmCells p2 q2
  | [], q, p2, q2, h => by
    cases q with
    | nil => rfl
    | cons a b => simp at h
  | s :: p, [], p2, q2, h => by simp at h
  | s :: p, x :: q, p2, q2, h => by
    have := frmCells_append p q p2 q2 (by simpa using h)
    simp only [List.cons_append, frmCells, this]
theorem frmCells_take : ∀ (k : Nat) (p : List Pc) (q : List Value), (frmCells p q).take (k * 2) = frmCells (p.take k) (q.take k)
  | 0, p, q => by simp [frmCells]
  | k + 1, [], q => by simp [frmCells]
  | k + 1, s :: p, [] => by simp [frmCells]
  | k + 1, s :: p, x :: q => by
    have := frmCells_take k p q
    rw [show (k + 1) * 2 = k * 2 + 1 + 1 by omega]
    simp only [List.take_succ_cons, frmCells, this]
theorem frmCells_at : ∀ (k : Nat) (p : List Pc) (q : List Value) (s : Pc) (x : Value), p[k]? = some s → q[k]? = some x → (frmCells p q)[k * 2]? = some (.int .i64 (s.1 : Nat)) ∧ (frmCells p q)[k * 2 + 1]? = some x
  | 0, s' :: p, x' :: q, s, x, h1, h2 => by
    simp at h1 h2
    subst h1 h2
    exact ⟨rfl, rfl⟩
  | k + 1, s' :: p, x' :: q, s, x, h1, h2 => by
    have := frmCells_at k p q s x (by simpa using h1) (by simpa using h2)
    rw [show (k + 1) * 2 = k * 2 + 1 + 1 by omega]
    simpa [frmCells] using this
  | 0, [], _, s, x, h1, _ => by simp at h1
  | 0, _ :: _, [], s, x, _, h2 => by simp at h2
  | k + 1, [], _, s, x, h1, _ => by simp at h1
  | k + 1, _ :: _, [], s, x, _, h2 => by simp at h2

/-- The slices q read as the pieces' bytes. -/
def Bods (w : World) (p : List Pc) (q : List Value) : Prop := q.length = p.length ∧ ∀ (k : Nat) (s : Pc) (x : Value), p[k]? = some s → q[k]? = some x → U8s w x s.2
theorem Bods.keep {w w' : World} {p : List Pc} {q : List Value} (h : Bods w p q) (hb : Below w.heap.size w w') : Bods w' p q := ⟨h.1, fun k s x h1 h2 => (h.2 k s x h1 h2).keep hb⟩
theorem Bods.nil (w : World) : Bods w [] [] := ⟨rfl, fun k s x h1 _ => by simp at h1⟩
theorem Bods.append {w : World} {p p2 : List Pc} {q q2 : List Value} (h : Bods w p q) (h2 : Bods w p2 q2) : Bods w (p ++ p2) (q ++ q2) := by
  refine ⟨by simp [h.1, h2.1], fun k s x e1 e2 => ?_⟩
  by_cases hk : k < p.length
  · rw [List.getElem?_append_left hk] at e1
    rw [List.getElem?_append_left (by rw [h.1]; exact hk)] at e2
    exact h.2 k s x e1 e2
  · rw [List.getElem?_append_right (by omega)] at e1
    rw [List.getElem?_append_right (by rw [h.1]; omega), h.1] at e2
    exact h2.2 _ s x e1 e2
theorem Bods.one {w : World} {s : Pc} {x : Value} (h : U8s w x s.2) : Bods w [s] [x] :=
  ⟨rfl, fun k s' x' h1 h2 => by
    match k, h1, h2 with
    | 0, h1, h2 => simp at h1 h2; subst h1 h2; exact h⟩
theorem Bods.take {w : World} {p : List Pc} {q : List Value} (h : Bods w p q) (k : Nat) : Bods w (p.take k) (q.take k) := by
  refine ⟨by simp [h.1], fun j s x e1 e2 => ?_⟩
  rw [List.getElem?_take] at e1 e2
  split at e1
  · rename_i hj
    rw [if_pos hj] at e2
    exact h.2 j s x e1 e2
  · cases e1

/-- No body lies in these blocks. -/
def Off (q : List Value) (G : Nat → Prop) : Prop := ∀ x ∈ q, ∀ b off m c, x = .slice (some ⟨b, off, none⟩) m c → 0 < m → ¬ G b
/-- A slice of pieces. -/
def Frms (w : World) (v : Value) (p : List Pc) : Prop := ∃ q, Row w 2 v p.length (frmCells p q) ∧ Bods w p q
/-- No bytes lie in the row itself. -/
def Apart (v : Value) (q : List Value) : Prop := ∀ x ∈ q, ∀ b off m c, x = .slice (some ⟨b, off, none⟩) m c → 0 < m → v.ownBlock ≠ some b
/-- .. in a row of the call's own. -/
def OwnFrms (t : TypeId) (base : Nat) (w : World) (v : Value) (p : List Pc) : Prop := ∃ q, w.ownsRow base t 2 v p.length (frmCells p q) ∧ Bods w p q ∧ Apart v q
section
variable {w w' : World} {v : Value} {p : List Pc} {t : TypeId} {base : Nat}
theorem Frms.keep (h : Frms w v p) (hb : Below w.heap.size w w') : Frms w' v p := let ⟨q, h1, h2⟩ := h; ⟨q, h1.keep hb, h2.keep hb⟩
theorem OwnFrms.keep (h : OwnFrms t base w v p) (hb : Below w.heap.size w w') : OwnFrms t base w' v p := let ⟨q, h1, h2, h3⟩ := h; ⟨q, own_keep h1 hb, h2.keep hb, h3⟩
theorem OwnFrms.frms (h : OwnFrms t base w v p) : Frms w v p := let ⟨q, h1, h2, _⟩ := h; ⟨q, Row.of_own h1, h2⟩
theorem OwnFrms.nil (t : TypeId) (base : Nat) (w : World) : OwnFrms t base w (.slice none 0 0) [] := ⟨[], World.ownsRow_nil _ _ _ _, Bods.nil w, fun x hx => by cases hx⟩
theorem OwnFrms.lower {base' : Nat} (h : OwnFrms t base' w v p) (hb : base ≤ base') : OwnFrms t base w v p := let ⟨q, h1, h2, h3⟩ := h; ⟨q, own_base h1 hb, h2, h3⟩
theorem OwnFrms.form (h : OwnFrms t base w v p) : ∃ A c, v = .slice A p.length c := let ⟨_, h1, _, _⟩ := h; own_form h1
theorem Frms.form (h : Frms w v p) : ∃ A c, v = .slice A p.length c ∧ p.length ≤ c ∧ c ≤ 9223372036854775807 := by
  obtain ⟨q, ⟨_, A, c, rfl, h1, h2, _⟩, _⟩ := h
  exact ⟨A, c, rfl, h1, h2⟩
/-- One piece: its kind's cell, its bodies' cell, its bytes. -/
theorem Frms.at_ {A : Option Addr} {n c k : Nat} {s : Pc} (h : Frms w (.slice A n c) p) (hk : p[k]? = some s) :
    ∃ b off x, A = some ⟨b, off, none⟩ ∧ b < w.heap.size ∧ w.cell? ⟨b, off + k * 2, none⟩ = some (.int .i64 (s.1 : Nat)) ∧ w.cell? ⟨b, off + k * 2 + 1, none⟩ = some x ∧ U8s w x s.2 := by
  obtain ⟨q, ⟨hl, A', c', e, hn, hc, hr⟩, hq⟩ := h
  injection e with e1 e2 e3
  subst e1 e3
  have hlt : k < p.length := (List.getElem?_eq_some_iff.1 hk).1
  obtain ⟨b, off, rfl, hb, hcell⟩ := hr (by omega)
  have hx := List.getElem?_eq_getElem (show k < q.length by rw [hq.1]; exact hlt)
  obtain ⟨h1, h2⟩ := frmCells_at k p q s _ hk hx
  exact ⟨b, off, _, rfl, hb, hcell _ _ h1, by rw [Nat.add_assoc]; exact hcell _ _ h2, hq.2 k s _ hk hx⟩
end
theorem Frms.nil_of {w : World} {v : Value} (h : Frms w v []) : ∃ A c, v = .slice A 0 c := let ⟨A, c, e, _, _⟩ := h.form; ⟨A, c, e⟩
/-- The first k pieces. -/
theorem Frms.front {w : World} {p : List Pc} {A : Option Addr} {n c k : Nat} (h : Frms w (.slice A n c) p) (hk : k ≤ p.length) : Frms w (.slice A k c) (p.take k) := by
  obtain ⟨q, hR, hq⟩ := h
  have hn : n = p.length := by
    obtain ⟨_, A', c', e, _⟩ := hR
    injection e
  subst hn
  refine ⟨q.take k, ?_, hq.take k⟩
  have := hR.prefix_ hk
  rw [frmCells_take] at this
  rwa [List.length_take, Nat.min_eq_left hk]
/-- One piece in a block of its own, as it is laid ahead of an append. -/
theorem row_frm (w : World) (k : Nat) (x : Value) (t : TypeId) : Row (w.alloc (.cells #[.int .i64 (k : Nat), x] t)) 2 (.slice (some ⟨w.heap.size, 0, none⟩) 1 1) 1 [.int .i64 (k : Nat), x] :=
  ⟨rfl, _, 1, rfl, Nat.le_refl _, by decide, fun _ => ⟨w.heap.size, 0, rfl, by simp, fun j u hj => by
    match j, hj with
    | 0, hj =>
      simp at hj
      subst hj
      simp
    | 1, hj =>
      simp at hj
      subst hj
      simp⟩⟩
theorem row_frm_at (w : World) (k : Nat) (x : Value) (t : TypeId) {B : Nat} (hB : B = w.heap.size) : Row (w.alloc (.cells #[.int .i64 (k : Nat), x] t)) 2 (.slice (some ⟨B, 0, none⟩) 1 1) 1 [.int .i64 (k : Nat), x] := by subst hB; exact row_frm w k x t
/-- The cells of pieces are of one cell each. -/
theorem ones_frms : ∀ (p : List Pc) (q : List Value), (∀ x ∈ q, x.oneCell' = true) → ∀ u ∈ frmCells p q, u.oneCell' = true
  | [], q, _, u, hu => by cases q <;> simp [frmCells] at hu
  | s :: p, [], _, u, hu => by simp [frmCells] at hu
  | s :: p, x :: q, h, u, hu => by
    simp only [frmCells, List.mem_cons] at hu
    rcases hu with rfl | rfl | hu
    · rfl
    · exact h _ (by simp)
    · exact ones_frms p q (fun y hy => h y (by simp [hy])) u hu
theorem one_u8s {w : World} {v : Value} {l : List Nat} (h : U8s w v l) : v.oneCell' = true := by
  obtain ⟨A, c, rfl, _⟩ := h.open_
  rfl
theorem Bods.ones {w : World} {p : List Pc} {q : List Value} (h : Bods w p q) : ∀ x ∈ q, x.oneCell' = true := fun x hx => by
  obtain ⟨k, hk, e⟩ := List.getElem_of_mem hx
  have hk2 : k < p.length := by rw [← h.1]; exact hk
  have h1 : p[k]? = some p[k] := List.getElem?_eq_getElem hk2
  exact one_u8s (h.2 k _ x h1 (by rw [List.getElem?_eq_getElem hk, e]))
theorem one_frm_len {x : Value} {k : Nat} {l : List Nat} : frmCells [(k, l)] [x] = [.int .i64 (k : Nat), x] := rfl
/-- Where bytes lie. -/
theorem u8_lt {w : World} {b off m c : Nat} {l : List Nat} (h : U8s w (.slice (some ⟨b, off, none⟩) m c) l) (hm : 0 < m) : b < w.heap.size := by
  obtain ⟨⟨_, A, c', e, hn, _, hr⟩, _⟩ := h
  injection e with e1 e2 _
  obtain ⟨b', off', e3, hlt, _⟩ := hr (by omega)
  rw [e3] at e1
  injection e1 with e1
  injection e1 with e1
  omega
/-- What lies in other rows than the one that grows is kept. -/
theorem u8_kept {W X W' : World} {v1 v : Value} {l : List Nat} (hX : Below W.heap.size W X) (hg : X.grownBy W' v1.ownBlock) (h : U8s W v l)
    (hne : ∀ b off m c, v = .slice (some ⟨b, off, none⟩) m c → 0 < m → v1.ownBlock ≠ some b) : U8s W' v l := by
  obtain ⟨⟨hl, A, c, rfl, hn, hc, hr⟩, hb⟩ := h
  refine ⟨⟨hl, A, c, rfl, hn, hc, fun h0 => ?_⟩, hb⟩
  obtain ⟨b, off, rfl, hlt, hcell⟩ := hr h0
  have hlt2 : b < X.heap.size := Nat.lt_of_lt_of_le hlt hX.size
  have hsame := hg.block b hlt2 (fun e => hne b off _ c rfl h0 e.symm)
  refine ⟨b, off, rfl, Nat.lt_of_lt_of_le hlt2 hg.size, fun i x hx => ?_⟩
  rw [← hcell i x hx]
  exact World.cell?_of_block (hsame.trans (hX.block b hlt))
/-- PIECES MORE IN A ROW OF THE CALL's OWN: behind an append, whether it grew in its place or not. -/
theorem frms_grownQ {W X W' : World} {t : TypeId} {base L M c' : Nat} {v : Value} {A' : Option Addr} {p p2 : List Pc} {q q2 : List Value} (hX : Below W.heap.size W X) (hq : Bods W p q) (ha : Apart v q) (hq2 : Bods W p2 q2) (ha2 : Apart v q2)
    (hg : X.grownBy W' v.ownBlock) (hat : (Value.slice A' L c').ownBlock = v.ownBlock ∨ (Value.slice A' L c').ownBlock = some M) (hM : W.heap.size ≤ M) (hL : L = p.length + p2.length)
    (hown : W'.ownsRow base t 2 (.slice A' L c') L (frmCells p q ++ frmCells p2 q2)) : W'.ownsRow base t 2 (.slice A' L c') (p ++ p2).length (frmCells (p ++ p2) (q ++ q2)) ∧ Bods W' (p ++ p2) (q ++ q2) ∧ Apart (.slice A' L c') (q ++ q2) := by
  have hall : Bods W (p ++ p2) (q ++ q2) := hq.append hq2
  have hap : Apart v (q ++ q2) := fun x hx => (List.mem_append.1 hx).elim (ha x) (ha2 x)
  have hin : ∀ x ∈ q ++ q2, ∃ s : Pc, U8s W x s.2 := fun x hx => by
    obtain ⟨k, hk, e⟩ := List.getElem_of_mem hx
    have hk2 : k < (p ++ p2).length := by rw [← hall.1]; exact hk
    exact ⟨(p ++ p2)[k], hall.2 k _ x (List.getElem?_eq_getElem hk2) (by rw [List.getElem?_eq_getElem hk, e])⟩
  refine ⟨?_, ⟨hall.1, fun k s x h1 h2 => u8_kept hX hg (hall.2 k s x h1 h2) (hap x (List.mem_of_getElem? h2))⟩, fun x hx b off m c e hm => ?_⟩
  · rw [frmCells_append p q p2 q2 hq.1, List.length_append, ← hL]
    exact hown
  · rcases hat with h | h
    · rw [h]; exact hap x hx b off m c e hm
    · rw [h]
      obtain ⟨s, hs⟩ := hin x hx
      rw [e] at hs
      have := u8_lt hs hm
      intro e2
      injection e2 with e2
      omega
theorem frms_grown {W X W' : World} {t : TypeId} {base L M c' : Nat} {v : Value} {A' : Option Addr} {p p2 : List Pc} {q q2 : List Value} (hX : Below W.heap.size W X) (hq : Bods W p q) (ha : Apart v q) (hq2 : Bods W p2 q2) (ha2 : Apart v q2)
    (hg : X.grownBy W' v.ownBlock) (hat : (Value.slice A' L c').ownBlock = v.ownBlock ∨ (Value.slice A' L c').ownBlock = some M) (hM : W.heap.size ≤ M) (hL : L = p.length + p2.length)
    (hown : W'.ownsRow base t 2 (.slice A' L c') L (frmCells p q ++ frmCells p2 q2)) : OwnFrms t base W' (.slice A' L c') (p ++ p2) := ⟨_, frms_grownQ hX hq ha hq2 ha2 hg hat hM hL hown⟩
theorem frms_more {W W' : World} {o : Obj} {t : TypeId} {base L M c' : Nat} {v : Value} {A' : Option Addr} {p p2 : List Pc} {q q2 : List Value} (hq : Bods W p q) (ha : Apart v q) (hq2 : Bods W p2 q2) (ha2 : Apart v q2)
    (hg : (W.alloc o).grownBy W' v.ownBlock) (hat : (Value.slice A' L c').ownBlock = v.ownBlock ∨ (Value.slice A' L c').ownBlock = some M) (hM : W.heap.size ≤ M) (hL : L = p.length + p2.length)
    (hown : W'.ownsRow base t 2 (.slice A' L c') L (frmCells p q ++ frmCells p2 q2)) : OwnFrms t base W' (.slice A' L c') (p ++ p2) :=
  frms_grown ((Below.refl _ W).alloc (Nat.le_refl _) o) hq ha hq2 ha2 hg hat hM hL hown
theorem Apart.one {v x : Value} (h : ∀ b off m c, x = .slice (some ⟨b, off, none⟩) m c → 0 < m → v.ownBlock ≠ some b) : Apart v [x] := fun y hy => by
  rw [List.mem_singleton.1 hy]; exact h
/-- What a call's own row begins behind lies apart of whatever lay ahead. -/
theorem apart_old {w W : World} {t : TypeId} {base size n : Nat} {v : Value} {xs : List Value} {p : List Pc} {q : List Value} (h : W.ownsRow base t size v n xs) (hq : Bods w p q) (hb : w.heap.size ≤ base) : Apart v q := fun x hx b off m c e hm e2 => by
  obtain ⟨k, hk, e3⟩ := List.getElem_of_mem hx
  have hk2 : k < p.length := by rw [← hq.1]; exact hk
  have hu := hq.2 k _ x (List.getElem?_eq_getElem hk2) (by rw [List.getElem?_eq_getElem hk, e3])
  rw [e] at hu
  have h1 := u8_lt hu hm
  have h2 := (h.lt b e2).1
  omega
theorem own_same2 {W W' : World} {base size : Nat} {e : TypeId} {v : Value} {n : Nat} {xs : List Value} (h : W.ownsRow base e size v n xs) (hk : ∀ g, v.ownBlock = some g → W'.heap[g]? = W.heap[g]?) : W'.ownsRow base e size v n xs := by
  obtain ⟨h1, h2⟩ := h
  refine ⟨h1, ?_⟩
  rcases h2 with h2 | ⟨g, cap, cur, hv, hg, hh, r⟩
  · exact .inl h2
  · exact .inr ⟨g, cap, cur, hv, hg, (hk g (by rw [hv]; rfl)).trans hh, r⟩
/-- Rows of unlike types are unlike blocks. -/
theorem own_unlike {W : World} {base base2 : Nat} {e e2 : TypeId} {size size2 : Nat} {v v2 : Value} {n n2 : Nat} {xs xs2 : List Value} (h : W.ownsRow base e size v n xs) (h2 : W.ownsRow base2 e2 size2 v2 n2 xs2) (hne : e ≠ e2) (b : Nat) (hb : v.ownBlock = some b) : v2.ownBlock ≠ some b := by
  rcases h.2 with ⟨rfl, _⟩ | ⟨g, cap, cur, rfl, _, hg, _⟩
  · simp [Value.ownBlock] at hb
  rcases h2.2 with ⟨rfl, _⟩ | ⟨g2, cap2, cur2, rfl, _, hg2, _⟩
  · simp [Value.ownBlock]
  intro hb2
  simp only [Value.ownBlock, Option.some.injEq] at hb hb2
  subst hb hb2
  rw [hg] at hg2
  injection hg2 with hg2
  injection hg2
  contradiction
end Go.Proofs.Ytgeekckoepnccaa.Frm
