/- Words for memory: a tree of nodes, each in a block of its own, what hangs above a place in it, and what turns when something else is hung there. -/
import Derived.Test.YtpcahgnibdampaaTriMem
namespace Go.Proofs.Ytpcahgnibdampaa.Tri
open Go.RowKit Mem PR Pfx Oct

/-- A tree of nodes: block, prefix, value, held, count, both below. -/
inductive MT where
  | nil : MT
  | node : Nat → Pf → Int → Bool → Int → MT → MT → MT
def ptr : MT → Value
  | .nil => .pointer none
  | .node b _ _ _ _ _ _ => .pointer (some ⟨b, 0, none⟩)
def ncell (q : Pf) (x : Int) (h : Bool) (c : Int) (k0 k1 : Value) : Array Value := #[.int .u32 q.a, .int .i64 q.n, .int .i64 x, .bool h, .int .i64 c, k0, k1]
/-- A node's block. -/
def Nd (W : World) (b : Nat) (q : Pf) (x : Int) (h : Bool) (c : Int) (k0 k1 : Value) : Prop := W.heap[b]? = some (.cells (ncell q x h c k0 k1) 64)
def Mt (W : World) : MT → Prop
  | .nil => True
  | .node b q x h c s t => Nd W b q x h c (ptr s) (ptr t) ∧ Mt W s ∧ Mt W t
/-- How often a block stands in it. -/
def cnt : MT → Nat → Nat
  | .nil, _ => 0
  | .node b _ _ _ _ s t, a => (if b = a then 1 else 0) + cnt s a + cnt t a
def msize : MT → Nat
  | .nil => 0
  | .node _ _ _ _ _ s t => 1 + msize s + msize t
/-- A node that one has come by: the side that one went to, and what is on the other one. -/
structure Fr where
  b : Nat
  q : Pf
  x : Int
  h : Bool
  c : Int
  i : Bool
  sib : MT
def Fr.put (f : Fr) (m : MT) : MT := if f.i then .node f.b f.q f.x f.h f.c f.sib m else .node f.b f.q f.x f.h f.c m f.sib
def plug : List Fr → MT → MT
  | [], m => m
  | f :: fs, m => plug fs (f.put m)
def hereA (tb : Nat) : List Fr → Addr
  | [] => ⟨tb, 0, none⟩
  | f :: _ => ⟨f.b, if f.i then 6 else 5, none⟩
def cntC : List Fr → Nat → Nat
  | [], _ => 0
  | f :: fs, a => (if f.b = a then 1 else 0) + cnt f.sib a + cntC fs a
def Fr.nd (f : Fr) (W : World) (v : Value) : Prop := if f.i then Nd W f.b f.q f.x f.h f.c (ptr f.sib) v else Nd W f.b f.q f.x f.h f.c v (ptr f.sib)
def MtC (W : World) : List Fr → Value → Prop
  | [], _ => True
  | f :: fs, v => f.nd W v ∧ Mt W f.sib ∧ MtC W fs (.pointer (some ⟨f.b, 0, none⟩))
theorem hereA_cons (tb : Nat) (f : Fr) (fs : List Fr) : hereA tb (f :: fs) = ⟨f.b, if f.i then 6 else 5, none⟩ := rfl
theorem Fr.cnt_put (f : Fr) (m : MT) (a : Nat) : cnt (f.put m) a = (if f.b = a then 1 else 0) + cnt f.sib a + cnt m a := by
  unfold Fr.put
  split <;> simp only [cnt] <;> omega
theorem Fr.ptr_put (f : Fr) (m : MT) : ptr (f.put m) = .pointer (some ⟨f.b, 0, none⟩) := by
  unfold Fr.put
  split <;> rfl
theorem Fr.mt_put (f : Fr) (m : MT) (W : World) : Mt W (f.put m) ↔ f.nd W (ptr m) ∧ Mt W f.sib ∧ Mt W m := by
  unfold Fr.put Fr.nd
  split
  · exact ⟨fun h => ⟨h.1, h.2.1, h.2.2⟩, fun h => ⟨h.1, h.2.1, h.2.2⟩⟩
  · exact ⟨fun h => ⟨h.1, h.2.2, h.2.1⟩, fun h => ⟨h.1, h.2.2, h.2.1⟩⟩
theorem cnt_plug : ∀ (fs : List Fr) (m : MT) (a : Nat), cnt (plug fs m) a = cntC fs a + cnt m a
  | [], m, a => by simp [plug, cntC]
  | f :: fs, m, a => by
    show cnt (plug fs (f.put m)) a = _
    rw [cnt_plug fs, f.cnt_put]
    simp only [cntC]; omega
theorem mt_plug : ∀ (fs : List Fr) (m : MT) (W : World), Mt W (plug fs m) ↔ MtC W fs (ptr m) ∧ Mt W m
  | [], m, W => by simp [plug, MtC]
  | f :: fs, m, W => by
    show Mt W (plug fs (f.put m)) ↔ _
    rw [mt_plug fs, f.mt_put, f.ptr_put]
    simp only [MtC]
    exact ⟨fun h => ⟨⟨h.2.1, h.2.2.1, h.1⟩, h.2.2.2⟩, fun h => ⟨h.1.2.2, h.1.1, h.1.2.1, h.2⟩⟩
theorem Mt.keep {W W' : World} : ∀ {m : MT}, Mt W m → (∀ k, 0 < cnt m k → W'.heap[k]? = W.heap[k]?) → Mt W' m
  | .nil, _, _ => trivial
  | .node b q x h c s t, hm, hk => by
    obtain ⟨h1, h2, h3⟩ := hm
    simp only [cnt] at hk
    exact ⟨(hk b (by simp; omega)).trans h1, h2.keep (fun k h => hk k (by omega)), h3.keep (fun k h => hk k (by omega))⟩
theorem MtC.keep {W W' : World} : ∀ {fs : List Fr} {v : Value}, MtC W fs v → (∀ k, 0 < cntC fs k → W'.heap[k]? = W.heap[k]?) → MtC W' fs v
  | [], _, _, _ => trivial
  | f :: fs, v, hm, hk => by
    obtain ⟨h1, h2, h3⟩ := hm
    simp only [cntC] at hk
    have hb := hk f.b (by simp; omega)
    refine ⟨?_, h2.keep (fun k h => hk k (by omega)), h3.keep (fun k h => hk k (by omega))⟩
    unfold Fr.nd Nd at h1 ⊢
    rw [hb]; exact h1
theorem Mt.low {W : World} : ∀ {m : MT}, Mt W m → ∀ k, 0 < cnt m k → k < W.heap.size
  | .nil, _, k, hk => absurd hk (Nat.lt_irrefl 0)
  | .node b q x h c s t, hm, k, hk => by
    obtain ⟨h1, h2, h3⟩ := hm
    simp only [cnt] at hk
    by_cases e : b = k
    · subst e
      rcases Nat.lt_or_ge b W.heap.size with h | h
      · exact h
      · unfold Nd at h1; rw [Array.getElem?_eq_none h] at h1; cases h1
    · rw [if_neg e] at hk
      rcases Nat.lt_or_ge 0 (cnt s k) with h4 | h4
      · exact h2.low k h4
      · exact h3.low k (by omega)
/-- The tree's own block, that of the root's place, and all nodes. -/
def TreeM (W : World) (tb : Nat) (m : MT) : Prop :=
  W.heap[tb]? = some (.cells #[ptr m] 55) ∧ Mt W m ∧ ∀ a, (if tb = a then 1 else 0) + cnt m a ≤ 1
/-- Its blocks. -/
def Blks (tb : Nat) (m : MT) (k : Nat) : Prop := k = tb ∨ 0 < cnt m k
theorem TreeM.keep {W W' : World} {tb : Nat} {m : MT} (h : TreeM W tb m) (hk : ∀ k, Blks tb m k → W'.heap[k]? = W.heap[k]?) : TreeM W' tb m :=
  ⟨(hk tb (.inl rfl)).trans h.1, h.2.1.keep (fun k hc => hk k (.inr hc)), h.2.2⟩
theorem TreeM.low {W : World} {tb : Nat} {m : MT} (h : TreeM W tb m) : ∀ k, Blks tb m k → k < W.heap.size := fun k hk => by
  rcases hk with rfl | hk
  · rcases Nat.lt_or_ge k W.heap.size with h1 | h1
    · exact h1
    · have := h.1; rw [Array.getElem?_eq_none h1] at this; cases this
  · exact h.2.1.low k hk
theorem TreeM.below {W W' : World} {tb : Nat} {m : MT} (h : TreeM W tb m) (hb : Below W.heap.size W W') : TreeM W' tb m := h.keep (fun k hk => hb.block k (h.low k hk))
theorem cell_at {W : World} {b : Nat} {A : Array Value} {t : TypeId} {i : Nat} {v : Value} (h : W.heap[b]? = some (.cells A t)) (hv : A[i]? = some v) : W.cell? ⟨b, i, none⟩ = some v := by
  rw [cell_of_row W b i A t (0, 0) h, hv]
theorem Nd.cells {W : World} {b : Nat} {q : Pf} {x : Int} {h : Bool} {c : Int} {k0 k1 : Value} (hn : Nd W b q x h c k0 k1) :
    W.cell? ⟨b, 0, none⟩ = some (.int .u32 q.a) ∧ W.cell? ⟨b, 1, none⟩ = some (.int .i64 q.n) ∧ W.cell? ⟨b, 2, none⟩ = some (.int .i64 x) ∧ W.cell? ⟨b, 3, none⟩ = some (.bool h) ∧ W.cell? ⟨b, 4, none⟩ = some (.int .i64 c) ∧ W.cell? ⟨b, 5, none⟩ = some k0 ∧ W.cell? ⟨b, 6, none⟩ = some k1 :=
  ⟨cell_at hn rfl, cell_at hn rfl, cell_at hn rfl, cell_at hn rfl, cell_at hn rfl, cell_at hn rfl, cell_at hn rfl⟩
theorem Nd.low {W : World} {b : Nat} {q : Pf} {x : Int} {h : Bool} {c : Int} {k0 k1 : Value} (hn : Nd W b q x h c k0 k1) : b < W.heap.size := by
  rcases Nat.lt_or_ge b W.heap.size with h1 | h1
  · exact h1
  · unfold Nd at hn; rw [Array.getElem?_eq_none h1] at hn; cases hn
/-- What hangs at a place is read there. -/
theorem here_cell {W : World} {tb : Nat} {fs : List Fr} {m : MT} (h : TreeM W tb (plug fs m)) : W.cell? (hereA tb fs) = some (ptr m) := by
  obtain ⟨h1, h2, -⟩ := h
  cases fs with
  | nil => exact cell_at h1 rfl
  | cons f fs =>
    have h3 := (((mt_plug (f :: fs) m W).1 h2).1).1
    unfold Fr.nd at h3
    rw [hereA_cons]
    split at h3
    · rename_i hi; rw [if_pos hi]; exact cell_at h3 rfl
    · rename_i hi; rw [if_neg hi]; exact cell_at h3 rfl
theorem here_froz {W : World} {tb : Nat} {fs : List Fr} {m : MT} (h : TreeM W tb (plug fs m)) : W.frozen? (hereA tb fs) = false := by
  obtain ⟨h1, h2, -⟩ := h
  cases fs with
  | nil => exact frozen_of_row W tb 0 _ _ h1
  | cons f fs =>
    have h3 := (((mt_plug (f :: fs) m W).1 h2).1).1
    unfold Fr.nd at h3
    rw [hereA_cons]
    split at h3
    · exact frozen_of_row W f.b _ _ _ h3
    · exact frozen_of_row W f.b _ _ _ h3
theorem heap_set {W : World} {b i : Nat} {A : Array Value} {t : TypeId} (u : Value) (h : W.heap[b]? = some (.cells A t)) : (W.setCell ⟨b, i, none⟩ u).heap[b]? = some (.cells (A.setIfInBounds i u) t) := by
  rw [Go.Joins.block_setCell h]
/-- Something else is hung at a place. -/
theorem hang {W : World} {tb : Nat} {fs : List Fr} {m m2 : MT} (h : TreeM W tb (plug fs m)) (h2 : Mt W m2) (hs : ∀ a, (if tb = a then 1 else 0) + cnt (plug fs m2) a ≤ 1) : TreeM (W.setCell (hereA tb fs) (ptr m2)) tb (plug fs m2) := by
  obtain ⟨k1, k2, -⟩ := h
  cases fs with
  | nil =>
    refine ⟨heap_set (ptr m2) k1, ?_, hs⟩
    refine Mt.keep (m := m2) h2 (fun k hk => Go.RowKit.Below.heap_setCell _ _ _ _ (fun e => ?_))
    have e2 : tb = k := e.symm
    have h3 := hs k
    rw [if_pos e2] at h3
    have h4 : cnt (plug [] m2) k = cnt m2 k := rfl
    omega
  | cons f fs =>
    have k3 := ((mt_plug (f :: fs) m W).1 k2).1
    obtain ⟨g1, g2, g3⟩ := k3
    have hc := fun a => cnt_plug (f :: fs) m2 a
    have hb := hs f.b
    rw [hc f.b] at hb
    simp only [cntC, if_pos] at hb
    have hne : tb ≠ f.b := fun e => by rw [if_pos e] at hb; omega
    have hoth : ∀ k, k ≠ f.b → (W.setCell (hereA tb (f :: fs)) (ptr m2)).heap[k]? = W.heap[k]? := fun k hk => Go.RowKit.Below.heap_setCell _ _ _ _ hk
    have hne2 : ∀ k, (0 < cnt m2 k ∨ 0 < cnt f.sib k ∨ 0 < cntC fs k) → k ≠ f.b := fun k hk e => by
      subst e; omega
    refine ⟨?_, ?_, hs⟩
    · rw [hoth tb hne, k1]
      have : ∀ m, ptr (plug (f :: fs) m) = ptr (plug (f :: fs) .nil) := fun m => by
        cases fs with
        | nil => show ptr (f.put m) = ptr (f.put .nil); rw [f.ptr_put, f.ptr_put]
        | cons g gs =>
          have : ∀ (gs : List Fr) (g : Fr) (a b : MT), ptr (plug (g :: gs) a) = ptr (plug (g :: gs) b) := by
            intro gs
            induction gs with
            | nil => intro g a b; show ptr (g.put a) = ptr (g.put b); rw [g.ptr_put, g.ptr_put]
            | cons e es ih => intro g a b; exact ih e (g.put a) (g.put b)
          exact this gs g (f.put m) (f.put .nil)
      rw [this m, this m2]
    · rw [mt_plug]
      refine ⟨⟨?_, g2.keep (fun k hk => hoth k (hne2 k (.inr (.inl hk)))), g3.keep (fun k hk => hoth k (hne2 k (.inr (.inr hk))))⟩, Mt.keep h2 (fun k hk => hoth k (hne2 k (.inl hk)))⟩
      unfold Fr.nd at g1 ⊢
      rw [hereA_cons]
      split at g1
      · rename_i hi
        rw [if_pos hi, if_pos hi]; exact heap_set (ptr m2) g1
      · rename_i hi
        rw [if_neg hi, if_neg hi]; exact heap_set (ptr m2) g1
/-- What it stands for. -/
def tr : MT → Tr
  | .nil => .nil
  | .node _ q x h _ s t => .node q (if h then some x else none) (tr s) (tr t)
/-- All counts are right, and what is not held has no value. -/
def Fit : MT → Prop
  | .nil => True
  | .node b q x h c s t => c = ((ents (tr (.node b q x h c s t))).length : Int) ∧ (h = false → x = 0) ∧ Fit s ∧ Fit t
/-- A tree in memory. -/
def TT : World → Nat → Value → Tr → (Nat → Prop) → Prop := fun W base v t F =>
  ∃ tb m, v = .pointer (some ⟨tb, 0, none⟩) ∧ TreeM W tb m ∧ tr m = t ∧ WF t ∧ Fit m ∧ (∀ k, F k ↔ Blks tb m k) ∧ ∀ k, F k → base ≤ k
/-- The least number of which something is true. -/
theorem least_ex {P : Nat → Prop} (h : ∃ n, P n) : ∃ n, P n ∧ ∀ m, P m → n ≤ m := by
  obtain ⟨n, hn⟩ := h
  induction n using Nat.strongRecOn with
  | _ n ih =>
    by_cases hx : ∃ m, m < n ∧ P m
    · obtain ⟨m, h1, h2⟩ := hx; exact ih m h1 h2
    · exact ⟨n, hn, fun m hm => by
        rcases Nat.lt_or_ge m n with h1 | h1
        · exact absurd ⟨m, h1, hm⟩ hx
        · exact h1⟩
open Classical in
noncomputable def least (P : Nat → Prop) : Nat := if h : ∃ n, P n then Classical.choose (least_ex h) else 0
theorem least_is {P : Nat → Prop} (h : ∃ n, P n) : P (least P) := by
  unfold least; rw [dif_pos h]; exact (Classical.choose_spec (least_ex h)).1
theorem least_le {P : Nat → Prop} {n : Nat} (h : P n) : least P ≤ n := by
  unfold least; rw [dif_pos ⟨n, h⟩]; exact (Classical.choose_spec (least_ex ⟨n, h⟩)).2 n h
end Go.Proofs.Ytpcahgnibdampaa.Tri
