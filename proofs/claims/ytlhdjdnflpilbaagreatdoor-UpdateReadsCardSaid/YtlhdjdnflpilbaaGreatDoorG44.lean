/- The program's Decode. The reference's lay: an attribute's value, laid among the others. -/
import Derived.Test.YtlhdjdnflpilbaaGreatDoorG43
namespace Go.Proofs.YtlhdjdnflpilbaaGreatDoor.Att
open Go.RowKit Mem Segm Oct Seg
def seenA (l : List Nat) : Array Value := ((List.range 256).map fun i => Value.bool (decide (i ∈ l))).toArray
theorem seenA_at (l : List Nat) {k : Nat} (hk : k < 256) : (seenA l)[k]? = some (.bool (decide (k ∈ l))) := by
  unfold seenA
  simp [hk]
theorem seenA_set (l : List Nat) {k : Nat} (hk : k < 256) : (seenA l).setIfInBounds k (.bool true) = seenA (k :: l) := by
  apply Array.ext_getElem?
  intro i
  rw [Array.getElem?_setIfInBounds]
  by_cases hi : i < 256
  · rw [seenA_at (k :: l) hi]
    by_cases h : k = i
    · subst h
      have : k < (seenA l).size := by simp [seenA]; exact hk
      simp [this]
    · rw [if_neg h, seenA_at l hi]
      have e : (i ∈ k :: l) ↔ i ∈ l := by
        rw [List.mem_cons]
        exact ⟨fun q => q.elim (fun q => absurd q.symm h) id, Or.inr⟩
      rw [decide_eq_decide.2 e]
  · have h1 : (seenA l)[i]? = none := by simp [seenA]; omega
    have h2 : (seenA (k :: l))[i]? = none := by simp [seenA]; omega
    rw [if_neg (by omega), h1, h2]
theorem seen_zero : Tryz.zeroCells109 = seenA [] := by kernel_rfl
theorem rd_only {W W' : World} {base n B : Nat} {v : Value} {l : List Nat} {bad : Bool} {F : Nat → Prop} (h : R W base n v l bad F) (hB : ∀ i n, W.cell? ⟨B, i, none⟩ ≠ some (.int .u8 n)) (hb : B < base) (ho : Only (fun q => q = B) W W') : R W' base n v l bad F := by
  rcases h with h | ⟨b, s, h1, h2, h3, h4, h5, h6, h7, h8⟩
  · exact .inl h
  · exact .inr ⟨b, s, h1, h2, h3, Nat.le_trans h4 ho.size, (ho.block b (by omega) (by omega)).trans h5, u8_only h6 hB ho, h7, h8⟩
def cellLen (W : World) (b : Nat) : Nat := match W.cell? ⟨b, 0, none⟩ with
  | some (.slice _ n _) => n
  | _ => 0
theorem cellLen_is {W : World} {base n b : Nat} {l : List Nat} {bad : Bool} {F : Nat → Prop} (h : R W base n (.pointer (some ⟨b, 0, none⟩)) l bad F) : cellLen W b = l.length := by
  rcases h with ⟨h, _⟩ | ⟨b', s, h1, _, _, _, h5, h6, _⟩
  · cases h
  · injection h1 with h1
    injection h1 with h1
    injection h1 with h1
    subst h1
    obtain ⟨A, c, rfl, _, _⟩ := h6.form
    unfold cellLen
    rw [(cell0 h5).1]
structure DcSt (w0 : World) (b N : Nat) (seen : List Nat) (a : At) (x : Rd) (W : World) : Prop where
  r9 : Box9 W w0.heap.size 27 (.int .i64 0) (.int .i64 0) (.slice none 0 0) (.int .u32 0) (.int .u32 0) (.int .u32 0) (.int .u32 0) (.int .u32 0) (.slice none 0 0)
  n3 : Box3 W (w0.heap.size + 1) 41 (.int .i64 0) (.int .i64 0) (.slice none 0 0)
  box : BoxA W (w0.heap.size + 2) N a
  sn : W.heap[w0.heap.size + 3]? = some (.cells (seenA seen) 109)
  rd : R W (w0.heap.size + 4) N (.pointer (some ⟨b, 0, none⟩)) x.l x.b (fun q => q = b)
  low : Below w0.heap.size w0 W
section
variable {w0 W W2 : World} {b N : Nat} {seen : List Nat} {a a2 : At} {x y : Rd}
theorem DcSt.lts (h : DcSt w0 b N seen a x W) : w0.heap.size < W.heap.size ∧ w0.heap.size + 1 < W.heap.size ∧ w0.heap.size + 3 < W.heap.size ∧ w0.heap.size + 4 ≤ b ∧ b < N ∧ N ≤ W.heap.size :=
  ⟨h.r9.lt, h.n3.lt, (Array.getElem?_eq_some_iff.1 h.sn).1, (h.rd.low b rfl).1, (h.rd.low b rfl).2, h.box.lt.2⟩
theorem DcSt.below (h : DcSt w0 b N seen a x W) (hb : Below W.heap.size W W2) : DcSt w0 b N seen a x W2 :=
  ⟨h.r9.keep hb, h.n3.keep hb, h.box.below hb, (hb.block _ h.lts.2.2.1).trans h.sn, h.rd.below hb, h.low.trans (hb.mono h.low.size)⟩
theorem DcSt.read (h : DcSt w0 b N seen a x W) (hr : R W2 (w0.heap.size + 4) N (.pointer (some ⟨b, 0, none⟩)) y.l y.b (fun q => q = b)) (ho : Only (fun q => q = b) W W2) : DcSt w0 b N seen a y W2 := by
  obtain ⟨h1, h2, h3, h4, h5, h6⟩ := h.lts
  exact ⟨⟨(ho.block _ h1 (by omega)).trans h.r9.blk⟩, ⟨(ho.block _ h2 (by omega)).trans h.n3.blk⟩, h.box.on ho (fun k e => by subst e; omega), (ho.block _ h3 (by omega)).trans h.sn, hr, h.low.trans (ho.below (fun k e => by subst e; omega) h.low.size)⟩
theorem DcSt.fill (h : DcSt w0 b N seen a x W) (ho : Only (fun q => q = w0.heap.size + 2) W W2) (hA : BoxA W2 (w0.heap.size + 2) N a2) : DcSt w0 b N seen a2 x W2 := by
  obtain ⟨h1, h2, h3, h4, h5, h6⟩ := h.lts
  obtain ⟨-, -, Ap, np, cp, Ac, nc, cc, b9, -, -, -⟩ := h.box
  exact ⟨⟨(ho.block _ h1 (by omega)).trans h.r9.blk⟩, ⟨(ho.block _ h2 (by omega)).trans h.n3.blk⟩, hA, (ho.block _ h3 (by omega)).trans h.sn, rd_only h.rd (b9.no8 n9) (by omega) ho, h.low.trans (ho.below (fun k e => by subst e; omega) h.low.size)⟩
theorem DcSt.lost (h : DcSt w0 b N seen a x W) (ho : Only (fun q => q = w0.heap.size + 2) W W2) : Box9 W2 w0.heap.size 27 (.int .i64 0) (.int .i64 0) (.slice none 0 0) (.int .u32 0) (.int .u32 0) (.int .u32 0) (.int .u32 0) (.int .u32 0) (.slice none 0 0) ∧ Box3 W2 (w0.heap.size + 1) 41 (.int .i64 0) (.int .i64 0) (.slice none 0 0) ∧ Below w0.heap.size w0 W2 := by
  obtain ⟨h1, h2, h3, h4, h5, h6⟩ := h.lts
  exact ⟨⟨(ho.block _ h1 (by omega)).trans h.r9.blk⟩, ⟨(ho.block _ h2 (by omega)).trans h.n3.blk⟩, h.low.trans (ho.below (fun k e => by subst e; omega) h.low.size)⟩
theorem seen_no8 (h : W.heap[w0.heap.size + 3]? = some (.cells (seenA seen) 109)) (i : Nat) (n : Int) : W.cell? ⟨w0.heap.size + 3, i, none⟩ ≠ some (.int .u8 n) :=
  no8_cells h (fun u hu => by
    unfold seenA at hu
    simp only [List.mem_toArray, List.mem_map] at hu
    obtain ⟨j, _, rfl⟩ := hu
    exact no8_b _) i n
theorem DcSt.mark (h : DcSt w0 b N seen a x W) {k : Nat} (hk : k < 256) : DcSt w0 b N (k :: seen) a x (W.setCell ⟨w0.heap.size + 3, k, none⟩ (.bool true)) := by
  obtain ⟨h1, h2, h3, h4, h5, h6⟩ := h.lts
  have ho : Only (fun q => q = w0.heap.size + 3) W (W.setCell ⟨w0.heap.size + 3, k, none⟩ (.bool true)) := Only.set (F := fun q => q = w0.heap.size + 3) (b := w0.heap.size + 3) (i := k) (Only.refl _ _) rfl _
  have hN := h.box.lt.1
  refine ⟨⟨(ho.block _ h1 (by omega)).trans h.r9.blk⟩, ⟨(ho.block _ h2 (by omega)).trans h.n3.blk⟩, h.box.on ho (fun k e => by subst e; omega), ?_, rd_only h.rd (seen_no8 h.sn) (by omega) ho, h.low.trans (ho.below (fun k e => by subst e; omega) h.low.size)⟩
  rw [Go.Joins.block_setCell h.sn, seenA_set seen hk]
theorem DcSt.seen_cell (h : DcSt w0 b N seen a x W) {k : Nat} (hk : k < 256) : W.cell? ⟨w0.heap.size + 3, k, none⟩ = some (.bool (decide (k ∈ seen))) ∧ W.frozen? ⟨w0.heap.size + 3, k, none⟩ = false := by
  refine ⟨?_, Go.Joins.unfrozen_of_block h.sn k⟩
  have := seenA_at seen hk
  simp only [World.cell?, h.sn]
  simpa using this
end
structure DcStart (w0 W : World) : Prop where
  r9 : Box9 W w0.heap.size 27 (.int .i64 0) (.int .i64 0) (.slice none 0 0) (.int .u32 0) (.int .u32 0) (.int .u32 0) (.int .u32 0) (.int .u32 0) (.slice none 0 0)
  n3 : Box3 W (w0.heap.size + 1) 41 (.int .i64 0) (.int .i64 0) (.slice none 0 0)
  b9 : Box9 W (w0.heap.size + 2) 27 (.int .i64 0) (.int .i64 0) (.slice none 0 0) (.int .u32 0) (.int .u32 0) (.int .u32 0) (.int .u32 0) (.int .u32 0) (.slice none 0 0)
  sn : W.heap[w0.heap.size + 3]? = some (.cells (seenA []) 109)
  size : W.heap.size = w0.heap.size + 4
  low : Below w0.heap.size w0 W
theorem DcStart.start {w0 W W2 : World} {b : Nat} {l : List Nat} (h : DcStart w0 W) (hr : R W2 W.heap.size W2.heap.size (.pointer (some ⟨b, 0, none⟩)) l false (fun q => q = b)) (hb : Below W.heap.size W W2) : DcSt w0 b W2.heap.size [] zeroA ⟨l, false⟩ W2 := by
  have hs := hb.size
  rw [h.size] at hr hs
  refine ⟨h.r9.keep hb, h.n3.keep hb, ⟨zeroA_ok, ⟨by omega, Nat.le_refl _⟩, none, 0, 0, none, 0, 0, h.b9.keep hb, nil_segsF _ _ _, U32s.nil _, NewAt.nil _⟩, (hb.block _ (by rw [h.size]; omega)).trans h.sn, hr, h.low.trans (hb.mono h.low.size)⟩
theorem dec_boxes (w : World) : DcStart w ((((w.alloc (.cells #[.int .i64 0, .int .i64 0, .slice none 0 0, .int .u32 0, .int .u32 0, .int .u32 0, .int .u32 0, .int .u32 0, .slice none 0 0] 27)).alloc (.cells #[.int .i64 0, .int .i64 0, .slice none 0 0] 41)).alloc (.cells #[.int .i64 0, .int .i64 0, .slice none 0 0, .int .u32 0, .int .u32 0, .int .u32 0, .int .u32 0, .int .u32 0, .slice none 0 0] 27)).alloc (.cells Tryz.zeroCells109 109)) := by
  have h1 := Box9.new w 27 (.int .i64 0) (.int .i64 0) (.slice none 0 0) (.int .u32 0) (.int .u32 0) (.int .u32 0) (.int .u32 0) (.int .u32 0) (.slice none 0 0)
  have b1 : Below w.heap.size w (w.alloc (.cells #[.int .i64 0, .int .i64 0, .slice none 0 0, .int .u32 0, .int .u32 0, .int .u32 0, .int .u32 0, .int .u32 0, .slice none 0 0] 27)) := (Below.refl _ _).alloc (Nat.le_refl _) _
  have e1 : (w.alloc (.cells #[.int .i64 0, .int .i64 0, .slice none 0 0, .int .u32 0, .int .u32 0, .int .u32 0, .int .u32 0, .int .u32 0, .slice none 0 0] 27)).heap.size = w.heap.size + 1 := by simp
  obtain ⟨w1, hw1⟩ : ∃ w1, w1 = w.alloc (.cells #[.int .i64 0, .int .i64 0, .slice none 0 0, .int .u32 0, .int .u32 0, .int .u32 0, .int .u32 0, .int .u32 0, .slice none 0 0] 27) := ⟨_, rfl⟩
  rw [← hw1] at h1 b1 e1 ⊢
  have h2 := Box3.new w1 41 (.int .i64 0) (.int .i64 0) (.slice none 0 0)
  have b2 : Below w1.heap.size w1 (w1.alloc (.cells #[.int .i64 0, .int .i64 0, .slice none 0 0] 41)) := (Below.refl _ _).alloc (Nat.le_refl _) _
  have e2 : (w1.alloc (.cells #[.int .i64 0, .int .i64 0, .slice none 0 0] 41)).heap.size = w.heap.size + 2 := by simp [e1]
  obtain ⟨w2, hw2⟩ : ∃ w2, w2 = w1.alloc (.cells #[.int .i64 0, .int .i64 0, .slice none 0 0] 41) := ⟨_, rfl⟩
  rw [← hw2] at h2 b2 e2 ⊢
  have h3 := Box9.new w2 27 (.int .i64 0) (.int .i64 0) (.slice none 0 0) (.int .u32 0) (.int .u32 0) (.int .u32 0) (.int .u32 0) (.int .u32 0) (.slice none 0 0)
  have b3 : Below w2.heap.size w2 (w2.alloc (.cells #[.int .i64 0, .int .i64 0, .slice none 0 0, .int .u32 0, .int .u32 0, .int .u32 0, .int .u32 0, .int .u32 0, .slice none 0 0] 27)) := (Below.refl _ _).alloc (Nat.le_refl _) _
  have e3 : (w2.alloc (.cells #[.int .i64 0, .int .i64 0, .slice none 0 0, .int .u32 0, .int .u32 0, .int .u32 0, .int .u32 0, .int .u32 0, .slice none 0 0] 27)).heap.size = w.heap.size + 3 := by simp [e2]
  obtain ⟨w3, hw3⟩ : ∃ w3, w3 = w2.alloc (.cells #[.int .i64 0, .int .i64 0, .slice none 0 0, .int .u32 0, .int .u32 0, .int .u32 0, .int .u32 0, .int .u32 0, .slice none 0 0] 27) := ⟨_, rfl⟩
  rw [← hw3] at h3 b3 e3 ⊢
  have b4 : Below w3.heap.size w3 (w3.alloc (.cells Tryz.zeroCells109 109)) := (Below.refl _ _).alloc (Nat.le_refl _) _
  rw [e1] at h2
  rw [e2] at h3
  refine ⟨((h1.keep b2).keep b3).keep b4, (h2.keep b3).keep b4, h3.keep b4, ?_, by simp [e3], (b1.trans (b2.mono b1.size)).trans ((b3.mono (by omega)).trans (b4.mono (by omega)))⟩
  have := heap_alloc_new w3 (.cells Tryz.zeroCells109 109)
  rw [e3] at this
  rw [this, seen_zero]
theorem dec_mid {W : World} {n0 : Nat} {x y z : Value} (h3 : Box3 W (n0 + 1) 41 x y z) (v0 v1 v2 v3 v4 v5 v6 v7 v8 : Value) : Box3 (nine W n0 v0 v1 v2 v3 v4 v5 v6 v7 v8) (n0 + 1) 41 x y z := ⟨((nine_off W n0 v0 v1 v2 v3 v4 v5 v6 v7 v8).1 (n0 + 1) (by omega)).trans h3.blk⟩
theorem dec_end {w0 W : World} {n0 : Nat} {q0 q1 q2 q3 q4 q5 q6 q7 q8 x y z : Value} (h9 : Box9 W n0 27 q0 q1 q2 q3 q4 q5 q6 q7 q8) (h3 : Box3 W (n0 + 1) 41 x y z) (hb : Below n0 w0 W) (v0 v1 v2 v3 v4 v5 v6 v7 v8 x' y' z' : Value) :
    Box9 (three (nine W n0 v0 v1 v2 v3 v4 v5 v6 v7 v8) (n0 + 1) x' y' z') n0 27 v0 v1 v2 v3 v4 v5 v6 v7 v8 ∧ Box3 (three (nine W n0 v0 v1 v2 v3 v4 v5 v6 v7 v8) (n0 + 1) x' y' z') (n0 + 1) 41 x' y' z' ∧ (∀ k, n0 + 1 < k → (three (nine W n0 v0 v1 v2 v3 v4 v5 v6 v7 v8) (n0 + 1) x' y' z').heap[k]? = W.heap[k]?) ∧ W.heap.size ≤ (three (nine W n0 v0 v1 v2 v3 v4 v5 v6 v7 v8) (n0 + 1) x' y' z').heap.size ∧ Below n0 w0 (three (nine W n0 v0 v1 v2 v3 v4 v5 v6 v7 v8) (n0 + 1) x' y' z') := by
  have a9 : Box9 (nine W n0 v0 v1 v2 v3 v4 v5 v6 v7 v8) n0 27 v0 v1 v2 v3 v4 v5 v6 v7 v8 := ((((((((h9.set0 v0).set1 v1).set2 v2).set3 v3).set4 v4).set5 v5).set6 v6).set7 v7).set8 v8
  have o1 := nine_off W n0 v0 v1 v2 v3 v4 v5 v6 v7 v8
  have o2 := three_off (nine W n0 v0 v1 v2 v3 v4 v5 v6 v7 v8) (n0 + 1) x' y' z'
  exact ⟨⟨(o2.1 n0 (by omega)).trans a9.blk⟩, (dec_mid h3 v0 v1 v2 v3 v4 v5 v6 v7 v8).laid x' y' z', fun k hk => (o2.1 k (by omega)).trans (o1.1 k (by omega)), Nat.le_trans o1.2 o2.2, three_low (nine_low hb n0 (Nat.le_refl _) v0 v1 v2 v3 v4 v5 v6 v7 v8) (n0 + 1) (by omega) x' y' z'⟩
theorem n9z : ∀ u ∈ [Value.int .i64 0, .int .i64 0, .slice none 0 0, .int .u32 0, .int .u32 0, .int .u32 0, .int .u32 0, .int .u32 0, .slice none 0 0], No8 u := n9 (h := 0) (o := 0) (hp := 0) (md := 0) (pr := 0) (ag := 0) (ai := 0)
theorem item_new (W : World) (x y z : Value) : Box3 (W.alloc (.cells #[x, y, z] 90)) W.heap.size 90 x y z ∧ Below W.heap.size W (W.alloc (.cells #[x, y, z] 90)) :=
  ⟨Box3.new W 90 x y z, (Below.refl _ _).alloc (Nat.le_refl _) _⟩
def DecF (b : List Nat) (w : World) (e : Ending) (w' : World) : Prop := ∃ va vn, e = .returned (.tuple #[va, vn]) ∧ Attrs w' va (outA (decodeA b)).1 ∧ Note w' vn (outA (decodeA b)).2 ∧ Below w.heap.size w w'
theorem segs_lower {t : TypeId} {n m : Nat} {W : World} {v : Value} {p : List Piece} (h : OwnSegsF t n n W v p) (hm : m ≤ n) : OwnSegsF t m m W v p := by
  obtain ⟨q, h1, h2, h3, h4⟩ := h
  exact ⟨q, own_base h1 hm, h2, h3, fun x hx b off k c e h0 => Nat.le_trans hm (h4 x hx b off k c e h0)⟩
def DecG (b : List Nat) (w : World) (e : Ending) (w' : World) : Prop := ∃ va vn, e = .returned (.tuple #[va, vn]) ∧ AtF w.heap.size w' va (outA (decodeA b)).1 ∧ Note w' vn (outA (decodeA b)).2 ∧ Below w.heap.size w w'
theorem DecG.decF {b : List Nat} {w w' : World} {e : Ending} (h : DecG b w e w') : DecF b w e w' := by
  obtain ⟨va, vn, h1, h2, h3⟩ := h
  exact ⟨va, vn, h1, h2.attrs, h3⟩
theorem atF_zero (n : Nat) (W : World) : AtF n W (.agg #[.int .i64 0, .int .i64 0, .slice none 0 0, .int .u32 0, .int .u32 0, .int .u32 0, .int .u32 0, .int .u32 0, .slice none 0 0]) zeroA :=
  ⟨zeroA_ok, .slice none 0 0, .slice none 0 0, rfl, nil_segsF _ _ _, U32s.nil W, NewAt.nil _⟩
theorem dec_bad {b : List Nat} {w W : World} {n : No} {sub : Nat} {A : Option Addr} {m c : Nat} (h9 : Box9 W w.heap.size 27 (.int .i64 0) (.int .i64 0) (.slice none 0 0) (.int .u32 0) (.int .u32 0) (.int .u32 0) (.int .u32 0) (.int .u32 0) (.slice none 0 0)) (h3 : Box3 W (w.heap.size + 1) 41 (.int .i64 0) (.int .i64 0) (.slice none 0 0)) (hb : Below w.heap.size w W)
    (hd : decodeA b = .inl n) (hn : Note W (.agg #[.int .i64 3, .int .i64 sub, .slice A m c]) n) :
    DecG b w (.returned (.tuple #[.agg #[.int .i64 0, .int .i64 0, .slice none 0 0, .int .u32 0, .int .u32 0, .int .u32 0, .int .u32 0, .int .u32 0, .slice none 0 0], .agg #[.int .i64 3, .int .i64 sub, .slice A m c]])) (three (nine W w.heap.size (.int .i64 0) (.int .i64 0) (.slice none 0 0) (.int .u32 0) (.int .u32 0) (.int .u32 0) (.int .u32 0) (.int .u32 0) (.slice none 0 0)) (w.heap.size + 1) (.int .i64 3) (.int .i64 sub) (.slice A m c)) := by
  obtain ⟨k1, k2, k3, k4, k5⟩ := dec_end h9 h3 hb (.int .i64 0) (.int .i64 0) (.slice none 0 0) (.int .u32 0) (.int .u32 0) (.int .u32 0) (.int .u32 0) (.int .u32 0) (.slice none 0 0) (.int .i64 3) (.int .i64 sub) (.slice A m c)
  have ho1 := nine_off W w.heap.size (.int .i64 0) (.int .i64 0) (.slice none 0 0) (.int .u32 0) (.int .u32 0) (.int .u32 0) (.int .u32 0) (.int .u32 0) (.slice none 0 0)
  obtain ⟨g1, g2, vd, g3, g4⟩ := hn
  injection g3 with g3
  have g5 : vd = .slice A m c := by
    have := congrArg (fun x : Array Value => x[2]?) g3
    simpa using this.symm
  subst g5
  have m9 : Box9 (nine W w.heap.size (.int .i64 0) (.int .i64 0) (.slice none 0 0) (.int .u32 0) (.int .u32 0) (.int .u32 0) (.int .u32 0) (.int .u32 0) (.slice none 0 0)) w.heap.size 27 (.int .i64 0) (.int .i64 0) (.slice none 0 0) (.int .u32 0) (.int .u32 0) (.int .u32 0) (.int .u32 0) (.int .u32 0) (.slice none 0 0) := ((((((((h9.set0 _).set1 _).set2 _).set3 _).set4 _).set5 _).set6 _).set7 _).set8 _
  have u1 : U8s (nine W w.heap.size (.int .i64 0) (.int .i64 0) (.slice none 0 0) (.int .u32 0) (.int .u32 0) (.int .u32 0) (.int .u32 0) (.int .u32 0) (.slice none 0 0)) (.slice A m c) n.data := u8_apart g4 (h9.no8 n9z) (fun k hk => ?_) ho1.2
  · have u2 := u8_apart u1 ((dec_mid h3 (.int .i64 0) (.int .i64 0) (.slice none 0 0) (.int .u32 0) (.int .u32 0) (.int .u32 0) (.int .u32 0) (.int .u32 0) (.slice none 0 0)).no8 (no8_i _) (no8_i _) (no8_s _ _ _)) (three_off _ _ _ _ _).1 (three_off _ _ (.int .i64 3) (.int .i64 sub) (.slice A m c)).2
    refine ⟨_, _, rfl, ?_, ?_, k5⟩
    · rw [hd]; exact atF_zero _ _
    · rw [hd]; exact ⟨g1, g2, _, congrArg Value.agg g3, u2⟩
  · have hne : ∀ i : Nat, k ≠ (⟨w.heap.size, i, none⟩ : Addr).block := fun i => hk
    unfold nine
    simp only [Go.RowKit.Below.heap_setCell _ _ _ _ (hne _)]
theorem note_form {W : World} {v : Value} {n : No} (h : Note W v n) : ∃ vd, v = .agg #[.int .i64 n.code, .int .i64 n.sub, vd] ∧ U8s W vd n.data := let ⟨_, _, vd, h3, h4⟩ := h; ⟨vd, h3, h4⟩
theorem note_zero (W : World) : Note W (.agg #[.int .i64 0, .int .i64 0, .slice none 0 0]) noneN := ⟨by decide, by decide, _, rfl, U8s.nil _⟩
theorem note_three (W : World) (s : Nat) (hs : s < 256) : Note W (.agg #[.int .i64 3, .int .i64 s, .slice none 0 0]) ⟨3, s, []⟩ := ⟨show (Lit.int .i64 3).wf = true by decide, by simp [Lit.wf, IntKind.min, IntKind.max, IntKind.signed, IntKind.bits]; omega, _, rfl, U8s.nil _⟩
theorem Fine.off {seen : List Nat} {a : At} (h : Fine seen a) {k : Nat} (hk : k ∉ seen) : a.has / 2 ^ k % 2 = 0 := by
  by_cases h8 : k ≤ 8
  · exact h.free k h8 hk
  · have h1 : (2 : Int) ^ k = ((2 ^ k : Nat) : Int) := by simp
    have h2 : 512 ≤ 2 ^ k := Nat.le_trans (by decide : 512 ≤ 2 ^ 9) (Nat.pow_le_pow_right (by omega) (by omega))
    rw [h1, Int.ediv_eq_zero_of_lt h.h0 (by have := h.h5; omega)]
    rfl
theorem sub_bound (f k : Nat) (v : List Nat) : subOf f k v < 256 ∧ subOf f k v ≠ 1 := by
  by_cases hk : k < 1 ∨ 8 < k
  · unfold subOf
    rw [if_pos hk]
    split <;> exact ⟨by omega, by omega⟩
  · rw [sub_known hk]
    unfold fillN
    cases pathIs v <;> dsimp only <;> (repeat' split) <;> exact ⟨by omega, by omega⟩
set_option maxRecDepth 100000 in
set_option maxHeartbeats 8000000 in
theorem decode_g (v : Value) (b : List Nat) (w : World) (hv : U8s w v b) (hl : b.length ≤ 100000) (hS : Shp w) :
    Calls Tryz.prog 46 #[v] w (DecG b w) := by
  have D0 := Go.Lib.hid (dec_boxes w)
  have CN := Go.Lib.hid (new_any v b _ (hv.keep ((D0.out.low).mono (Nat.le_refl _))) (by omega))
  have HS := Go.Lib.hid hS
  have HB := Go.Lib.hid (And.intro hv.2 hl)
  clear hv hl hS
  go_enter Tryz.func46, Tryz.ntmps46
  go_wp2_with (go_at_call 40; refine (CN.out).mono ?_; rintro e w1 ⟨B, rfl, hR, hb⟩; have ST0 := Go.Lib.hid (D0.out.start hR hb); clear hR hb)
  obtain ⟨N, hN⟩ : ∃ N, N = w1.heap.size := ⟨_, rfl⟩
  rw [← hN] at ST0
  clear hN D0 CN
  go_loopw [8] (fun _ wx => ∃ (l seen : List Nat) (a : At), Hid (Small l ∧ l.length ≤ b.length ∧ decodeA b = decF seen a l ∧ Fine seen a) ∧ Hid (DcSt w B N seen a ⟨l, false⟩ wx)) (fun _ wx => cellLen wx B)
  case atStart => exact ⟨b, [], zeroA, Go.Lib.hid ⟨HB.out.1, Nat.le_refl _, rfl, fine_zero⟩, ST0⟩
  case round =>
    obtain ⟨l, seen, a, HI, ST⟩ := hrel
    have CL := Go.Lib.hid (left_any _ _ _ _ _ _ wr ST.out.rd)
    dsimp only at CL
    by_cases hne : l = []
    · subst hne
      have e0 : ¬ ((([] : List Nat).length : Nat) : Int) > 0 := by simp
      obtain ⟨hok, hlt, Ap, np, cp, Ac, nc, cc, b9, hp, hc, hn⟩ := ST.out.box
      have HDC := Go.Lib.hid (show decodeA b = .inr (normA a) from HI.out.2.2.1)
      have CM := Go.Lib.hid (fun (W : World) (h : Below wr.heap.size wr W) => pnormA_any (.agg #[.int .i64 a.has, .int .i64 a.origin, .slice Ap np cp, .int .u32 (a.hop : Nat), .int .u32 (a.med : Nat), .int .u32 (a.pref : Nat), .int .u32 (a.aas : Nat), .int .u32 (a.aid : Nat), .slice Ac nc cc]) a W ⟨hok, _, _, rfl, (hp.keep h).segs, hc.keep h⟩ HI.out.2.2.2.bk HI.out.2.2.2.fit HI.out.2.2.2.cm)
      obtain ⟨c0, c1, c2, c3, c4, c5, c6, c7, c8⟩ := b9.cells
      have H9 := Go.Lib.hid b9
      clear b9 hp hc hn hok
      generalize normA a = q at CM HDC
      go_wp2_with (first
        | (go_at_call 47; refine (CL.out).mono ?_; rintro e x ⟨rfl, hb⟩; have S1 := Go.Lib.hid (And.intro (ST.out.below hb) hb); clear c0 c1 c2 c3 c4 c5 c6 c7 c8; obtain ⟨c0, c1, c2, c3, c4, c5, c6, c7, c8⟩ := (H9.out.keep hb).cells; clear hb)
        | (go_at_call 89; first | (refine (CM.out _ S1.out.2).mono ?_; rintro e y ⟨_, rfl, ⟨hq, vp, vc, rfl, hP, hC, hN⟩, hb⟩; have S2 := Go.Lib.hid (S1.out.1.below hb); obtain ⟨ap, cp2, rfl⟩ := hP.form; obtain ⟨ac, cc2, rfl, -, -, -, -⟩ := hC.open_; have HQ := Go.Lib.hid (And.intro hq (And.intro hP (And.intro hC (And.intro hN S1.out.1.lts.2.1)))); obtain ⟨q0, q1, q2, q3, q4, q5, q6, q7, q8⟩ := q; dsimp only [acells]; clear hb hq hP hC hN c0 c1 c2 c3 c4 c5 c6 c7 c8; obtain ⟨c0, c1, c2, c3, c4, c5, c6, c7, c8⟩ := S2.out.r9.cells; have f9 := S2.out.r9.free; obtain ⟨d0, d1, d2⟩ := (dec_mid S2.out.n3 (.int .i64 q0) (.int .i64 q1) (.slice ap q2.length cp2) (.int .u32 q3) (.int .u32 q4) (.int .u32 q5) (.int .u32 q6) (.int .u32 q7) (.slice ac q8.length cc2)).cells; have f3 := (dec_mid S2.out.n3 (.int .i64 q0) (.int .i64 q1) (.slice ap q2.length cp2) (.int .u32 q3) (.int .u32 q4) (.int .u32 q5) (.int .u32 q6) (.int .u32 q7) (.slice ac q8.length cc2)).free; unfold nine at d0 d1 d2 f3) | (trace "FELL M"; trace_state; fail_if_success skip)))
      obtain ⟨k1, k2, k3, k4, k5⟩ := dec_end S2.out.r9 S2.out.n3 S2.out.low (.int .i64 q0) (.int .i64 q1) (.slice ap q2.length cp2) (.int .u32 q3) (.int .u32 q4) (.int .u32 q5) (.int .u32 q6) (.int .u32 q7) (.slice ac q8.length cc2) (.int .i64 0) (.int .i64 0) (.slice none 0 0)
      have K := Go.Lib.hid (And.intro k3 (And.intro k4 k5))
      obtain ⟨r0, r1, r2, r3, r4, r5, r6, r7, r8⟩ := k1.cells
      obtain ⟨m0, m1, m2⟩ := k2.cells
      clear k1 k2 k3 k4 k5 c0 c1 c2 c3 c4 c5 c6 c7 c8 d0 d1 d2 f3 f9
      unfold three nine at r0 r1 r2 r3 r4 r5 r6 r7 r8 m0 m1 m2
      refine bodyPost_ret (v := .tuple #[.agg #[.int .i64 q0, .int .i64 q1, .slice ap q2.length cp2, .int .u32 q3, .int .u32 q4, .int .u32 q5, .int .u32 q6, .int .u32 q7, .slice ac q8.length cc2], .agg #[.int .i64 0, .int .i64 0, .slice none 0 0]]) (by simp [results, Tryz.results46, go_sem, r0, r1, r2, r3, r4, r5, r6, r7, r8, m0, m1, m2]) rfl ?_
      refine ⟨_, _, rfl, ?_, ?_, K.out.2.2⟩
      · rw [HDC.out]
        have hz := HQ.out.2.2.2.2
        exact ⟨HQ.out.1, _, _, rfl, segs_lower (segs_off HQ.out.2.1 (fun k hk => K.out.1 k (by omega)) K.out.2.1) (by omega), u32_off HQ.out.2.2.1 HQ.out.2.2.2.1 (fun k hk => K.out.1 k (by omega)) K.out.2.1, NewAt.lower HQ.out.2.2.2.1 (by omega)⟩
      · rw [HDC.out]
        exact note_zero _
    · have z1 : ((l.length : Nat) : Int) > 0 := by
        have := List.length_pos_iff.2 hne
        omega
      have hsm := HI.out.1
      cases hit : itemOf l with
      | none =>
        have HDC := Go.Lib.hid (HI.out.2.2.1.trans (decF_none hne hit))
        have CX := Go.Lib.hid (fun (W : World) (h : R W (w.heap.size + 4) N (.pointer (some ⟨B, 0, none⟩)) l false (fun q => q = B)) (hn : N ≤ W.heap.size) => next_any (.pointer (some ⟨B, 0, none⟩)) (w.heap.size + 4) N l (fun q => q = B) W hsm h hn)
        unfold NextF at CX
        have hrb := next_none hit
        generalize nxF l = xf at CX
        generalize nxK l = xk at CX
        generalize nxV l = xv at CX
        generalize nxR l = nr at CX hrb
        obtain ⟨xr, rb⟩ := nr
        dsimp only at CX hrb
        subst hrb
        clear hit hsm
        go_wp2_with (first
          | (go_at_call 47; refine (CL.out).mono ?_; rintro e x0 ⟨rfl, hb⟩; have S1 := Go.Lib.hid (ST.out.below hb); clear hb)
          | (have h := S1.out; go_at_call 86; first | (refine (CX.out _ h.rd h.box.lt.2).mono ?_; rintro e x1 ⟨A, c, rfl, hU, hR, ho⟩; obtain ⟨i1, i2⟩ := item_new x1 (.int .i64 xf) (.int .i64 xk) (.slice A xv.length c); have S3 := Go.Lib.hid ((h.read (y := ⟨xr, true⟩) hR ho).below i2); have D3 := Go.Lib.hid i1; have U3 := Go.Lib.hid (hU.keep i2); have Z3 := Go.Lib.hid (Nat.lt_of_lt_of_le h.lts.2.2.1 ho.size); clear h hU hR ho S1; obtain ⟨d0, d1, d2⟩ := i1.cells; clear i1 i2) | (trace "FELL X"; trace_state; fail_if_success skip))
          | (have h := S3.out; go_at_call 44; first | (refine (bad_any _ _ _ _ _ _ _ h.rd).mono ?_; rintro e x2 ⟨rfl, hb⟩; have S4 := Go.Lib.hid (h.below hb); have D4 := Go.Lib.hid (D3.out.keep hb); have U4 := Go.Lib.hid (U3.out.keep hb); clear hb h S3 D3 U3 d0 d1 d2; obtain ⟨d0, d1, d2⟩ := D4.out.cells) | (trace "FELL B"; trace_state; fail_if_success skip))
          | (go_at_call 87; first | (refine (notice_none _ _ A _ c 1 _ (.inl rfl)).mono ?_; rintro e x3 ⟨rfl, hb⟩; have S5 := Go.Lib.hid (S4.out.below hb); clear hb S4 d0 d1 d2; obtain ⟨c0, c1, c2, c3, c4, c5, c6, c7, c8⟩ := S5.out.r9.cells; have f9 := S5.out.r9.free; obtain ⟨m0, m1, m2⟩ := (dec_mid S5.out.n3 (.int .i64 0) (.int .i64 0) (.slice none 0 0) (.int .u32 0) (.int .u32 0) (.int .u32 0) (.int .u32 0) (.int .u32 0) (.slice none 0 0)).cells; have f3 := (dec_mid S5.out.n3 (.int .i64 0) (.int .i64 0) (.slice none 0 0) (.int .u32 0) (.int .u32 0) (.int .u32 0) (.int .u32 0) (.int .u32 0) (.slice none 0 0)).free; unfold nine at m0 m1 m2 f3) | (trace "FELL N1"; trace_state; fail_if_success skip)))
        obtain ⟨k1, k2, -⟩ := dec_end S5.out.r9 S5.out.n3 S5.out.low (.int .i64 0) (.int .i64 0) (.slice none 0 0) (.int .u32 0) (.int .u32 0) (.int .u32 0) (.int .u32 0) (.int .u32 0) (.slice none 0 0) (.int .i64 3) (.int .i64 1) (.slice none 0 0)
        obtain ⟨r0, r1, r2, r3, r4, r5, r6, r7, r8⟩ := k1.cells
        obtain ⟨t0, t1, t2⟩ := k2.cells
        clear k1 k2 c0 c1 c2 c3 c4 c5 c6 c7 c8 m0 m1 m2 f3 f9
        unfold three nine at r0 r1 r2 r3 r4 r5 r6 r7 r8 t0 t1 t2
        refine bodyPost_ret (v := .tuple #[.agg #[.int .i64 0, .int .i64 0, .slice none 0 0, .int .u32 0, .int .u32 0, .int .u32 0, .int .u32 0, .int .u32 0, .slice none 0 0], .agg #[.int .i64 3, .int .i64 1, .slice none 0 0]]) (by simp [results, Tryz.results46, go_sem, r0, r1, r2, r3, r4, r5, r6, r7, r8, t0, t1, t2]) rfl ?_
        exact dec_bad S5.out.r9 S5.out.n3 S5.out.low HDC.out (note_three _ 1 (by decide))
      | some x =>
        obtain ⟨xf, xk, xv, xr⟩ := x
        obtain ⟨hx1, hx2, hx3, hx4⟩ := next_some hit
        obtain ⟨hf1, hk1, hv1, hv2, hv3, hr1, hr2, hr3⟩ := item_facts hsm hit
        have HDF := Go.Lib.hid (HI.out.2.2.1.trans (decF_some hsm hit))
        dsimp only at hx1 hx2 hx3 hx4 hf1 hk1 hv1 hv2 hv3 hr1 hr2 hr3 HDF
        have CX := Go.Lib.hid (fun (W : World) (h : R W (w.heap.size + 4) N (.pointer (some ⟨B, 0, none⟩)) l false (fun q => q = B)) (hn : N ≤ W.heap.size) => next_any (.pointer (some ⟨B, 0, none⟩)) (w.heap.size + 4) N l (fun q => q = B) W hsm h hn)
        unfold NextF at CX
        rw [hx1, hx2, hx3, hx4] at CX
        dsimp only at CX
        have HF := Go.Lib.hid (And.intro hf1 (And.intro hk1 (And.intro hv1 (And.intro hv2 hv3))))
        have HR := Go.Lib.hid (And.intro hr1 (And.intro hr2 hr3))
        have z2 : (0 : Int) ≤ (xk : Int) := by omega
        have z3 : (xk : Int) < 256 := by omega
        have CE := Go.Lib.hid (fun (W : World) (a : At) (x : Rd) (seen : List Nat) (h : DcSt w B N seen a x W) => show W.cell? ⟨w.heap.size + 1 + 1 + 1, xk, none⟩ = some (.bool (decide (xk ∈ seen))) ∧ W.frozen? ⟨w.heap.size + 1 + 1 + 1, xk, none⟩ = false from h.seen_cell HF.out.2.1)
        clear hit hsm hx1 hx2 hx3 hx4 hf1 hk1 hv1 hv2 hv3 hr1 hr2 hr3
        by_cases hse : xk ∈ seen
        · have HDC := Go.Lib.hid (HDF.out.trans (if_pos hse))
          have hd : decide (xk ∈ seen) = true := decide_eq_true hse
          clear HDF hse
          go_wp2_with (first
            | (go_at_call 47; refine (CL.out).mono ?_; rintro e x0 ⟨rfl, hb⟩; have S1 := Go.Lib.hid (ST.out.below hb); clear hb)
            | (have h := S1.out; go_at_call 86; first | (refine (CX.out _ h.rd h.box.lt.2).mono ?_; rintro e x1 ⟨A, c, rfl, hU, hR, ho⟩; obtain ⟨i1, i2⟩ := item_new x1 (.int .i64 xf) (.int .i64 xk) (.slice A xv.length c); have S3 := Go.Lib.hid ((h.read (y := ⟨xr, false⟩) hR ho).below i2); have D3 := Go.Lib.hid i1; have U3 := Go.Lib.hid (hU.keep i2); have Z3 := Go.Lib.hid (Nat.lt_of_lt_of_le h.lts.2.2.1 ho.size); clear h hU hR ho S1; obtain ⟨d0, d1, d2⟩ := i1.cells; clear i1 i2) | (trace "FELL X"; trace_state; fail_if_success skip))
            | (have h := S3.out; go_at_call 44; first | (refine (bad_any _ _ _ _ _ _ _ h.rd).mono ?_; rintro e x2 ⟨rfl, hb⟩; have S4 := Go.Lib.hid (h.below hb); have D4 := Go.Lib.hid (D3.out.keep hb); have U4 := Go.Lib.hid (U3.out.keep hb); clear hb h S3 D3 U3 d0 d1 d2; obtain ⟨d0, d1, d2⟩ := D4.out.cells; obtain ⟨s0, s1⟩ := CE.out _ _ _ _ S4.out; rw [hd] at s0) | (trace "FELL B"; trace_state; fail_if_success skip))
            | (go_at_call 87; first | (refine (notice_none _ _ A _ c 1 _ (.inl rfl)).mono ?_; rintro e x3 ⟨rfl, hb⟩; have S5 := Go.Lib.hid (S4.out.below hb); clear hb S4 d0 d1 d2; obtain ⟨c0, c1, c2, c3, c4, c5, c6, c7, c8⟩ := S5.out.r9.cells; have f9 := S5.out.r9.free; obtain ⟨m0, m1, m2⟩ := (dec_mid S5.out.n3 (.int .i64 0) (.int .i64 0) (.slice none 0 0) (.int .u32 0) (.int .u32 0) (.int .u32 0) (.int .u32 0) (.int .u32 0) (.slice none 0 0)).cells; have f3 := (dec_mid S5.out.n3 (.int .i64 0) (.int .i64 0) (.slice none 0 0) (.int .u32 0) (.int .u32 0) (.int .u32 0) (.int .u32 0) (.int .u32 0) (.slice none 0 0)).free; unfold nine at m0 m1 m2 f3) | (trace "FELL N1"; trace_state; fail_if_success skip)))
          obtain ⟨k1, k2, -⟩ := dec_end S5.out.r9 S5.out.n3 S5.out.low (.int .i64 0) (.int .i64 0) (.slice none 0 0) (.int .u32 0) (.int .u32 0) (.int .u32 0) (.int .u32 0) (.int .u32 0) (.slice none 0 0) (.int .i64 3) (.int .i64 1) (.slice none 0 0)
          obtain ⟨r0, r1, r2, r3, r4, r5, r6, r7, r8⟩ := k1.cells
          obtain ⟨t0, t1, t2⟩ := k2.cells
          clear k1 k2 c0 c1 c2 c3 c4 c5 c6 c7 c8 m0 m1 m2 f3 f9
          unfold three nine at r0 r1 r2 r3 r4 r5 r6 r7 r8 t0 t1 t2
          refine bodyPost_ret (v := .tuple #[.agg #[.int .i64 0, .int .i64 0, .slice none 0 0, .int .u32 0, .int .u32 0, .int .u32 0, .int .u32 0, .int .u32 0, .slice none 0 0], .agg #[.int .i64 3, .int .i64 1, .slice none 0 0]]) (by simp [results, Tryz.results46, go_sem, r0, r1, r2, r3, r4, r5, r6, r7, r8, t0, t1, t2]) rfl ?_
          exact dec_bad S5.out.r9 S5.out.n3 S5.out.low HDC.out (note_three _ 1 (by decide))
        · have hd : decide (xk ∈ seen) = false := decide_eq_false hse
          have HD2 := Go.Lib.hid (HDF.out.trans (if_neg hse))
          have CRD := Go.Lib.hid (fun (A : Option Addr) (c : Nat) (W : World) (seen2 : List Nat) (h : DcSt w B N seen2 a ⟨xr, false⟩ W) (hu : U8s W (.slice A xv.length c) xv) => show Calls Tryz.prog 88 #[.agg #[.int .i64 xf, .int .i64 xk, .slice A xv.length c], .pointer (some ⟨w.heap.size + 1 + 1, 0, none⟩)] W (ReadF (w.heap.size + 2) N a xf xk xv W) from read_any xf xk A c xv W (w.heap.size + 2) N a h.box hu (HS.out.keep h.low) HF.out.1 HF.out.2.2.1 HI.out.2.2.2.h0 HI.out.2.2.2.h5 (HI.out.2.2.2.off hse))
          unfold ReadF at CRD
          have HFL := Go.Lib.hid (fun (h : subOf xf xk xv = 0) => HI.out.2.2.2.lay HF.out.2.2.2.2 HF.out.2.2.1 hse h)
          clear HDF
          by_cases hs0 : subOf xf xk xv = 0
          · have HDC := Go.Lib.hid (HD2.out.trans (if_pos hs0))
            have HFN := Go.Lib.hid (HFL.out hs0)
            rw [hs0] at CRD
            clear hs0 HD2 HFL hse
            go_wp2_with (first
              | (go_at_call 47; refine (CL.out).mono ?_; rintro e x0 ⟨rfl, hb⟩; have S1 := Go.Lib.hid (ST.out.below hb); clear hb)
              | (have h := S1.out; go_at_call 86; first | (refine (CX.out _ h.rd h.box.lt.2).mono ?_; rintro e x1 ⟨A, c, rfl, hU, hR, ho⟩; obtain ⟨i1, i2⟩ := item_new x1 (.int .i64 xf) (.int .i64 xk) (.slice A xv.length c); have S3 := Go.Lib.hid ((h.read (y := ⟨xr, false⟩) hR ho).below i2); have D3 := Go.Lib.hid i1; have U3 := Go.Lib.hid (hU.keep i2); have Z3 := Go.Lib.hid (Nat.lt_of_lt_of_le h.lts.2.2.1 ho.size); clear h hU hR ho S1; obtain ⟨d0, d1, d2⟩ := i1.cells; clear i1 i2) | (trace "FELL X"; trace_state; fail_if_success skip))
              | (have h := S3.out; go_at_call 44; first | (refine (bad_any _ _ _ _ _ _ _ h.rd).mono ?_; rintro e x2 ⟨rfl, hb⟩; have S4 := Go.Lib.hid (h.below hb); have D4 := Go.Lib.hid (D3.out.keep hb); have U4 := Go.Lib.hid (U3.out.keep hb); clear hb h S3 D3 U3 d0 d1 d2; obtain ⟨d0, d1, d2⟩ := D4.out.cells; obtain ⟨s0, s1⟩ := CE.out _ _ _ _ S4.out; rw [hd] at s0; have S5 := Go.Lib.hid (show DcSt w B N (xk :: seen) a ⟨xr, false⟩ (x2.setCell ⟨w.heap.size + 1 + 1 + 1, xk, none⟩ (.bool true)) from S4.out.mark HF.out.2.1); have D5 := Go.Lib.hid (D4.out.far (i := xk) (C := w.heap.size + 1 + 1 + 1) (by have := Z3.out; omega) (.bool true)); have U5 := Go.Lib.hid (u8_only U4.out (seen_no8 S4.out.sn) (Only.set (F := fun q => q = w.heap.size + 3) (b := w.heap.size + 3) (i := xk) (Only.refl _ _) rfl (.bool true))); obtain ⟨e0, e1, e2⟩ := D5.out.cells) | (trace "FELL B"; trace_state; fail_if_success skip))
              | (have h := S5.out; go_at_call 88; first | (refine (CRD.out A c _ _ h U5.out).mono ?_; rintro e x3 ⟨rfl, ho, hg⟩; have S6 := Go.Lib.hid (h.fill ho (hg (by first | rfl | trivial))); clear h ho hg S5 S4 D5 D4 U5 U4 d0 d1 d2 e0 e1 e2 s0 s1) | (trace "FELL R"; trace_state; fail_if_success skip)))
            go_roundw
            case rel => exact ⟨xr, xk :: seen, layA a xk xv, Go.Lib.hid ⟨HR.out.1, by have := HR.out.2.1; have := HI.out.2.1; omega, HDC.out, HFN.out⟩, S6⟩
            case measure =>
              rw [cellLen_is S6.out.rd, cellLen_is ST.out.rd]
              have := HR.out.2.1
              dsimp only
              omega
          · have HDC := Go.Lib.hid (HD2.out.trans (if_neg hs0))
            obtain ⟨hsb, hs1⟩ := sub_bound xf xk xv
            clear HD2 HFL hse
            generalize subOf xf xk xv = s at CRD HDC hs0 hsb hs1
            by_cases h11 : s = 11
            · subst h11
              have HDC := Go.Lib.hid (show decodeA b = .inl ⟨3, (11 : Nat), []⟩ from HDC.out)
              clear hs0 hsb hs1
              go_wp2_with (first
                | (go_at_call 47; refine (CL.out).mono ?_; rintro e x0 ⟨rfl, hb⟩; have S1 := Go.Lib.hid (ST.out.below hb); clear hb)
                | (have h := S1.out; go_at_call 86; first | (refine (CX.out _ h.rd h.box.lt.2).mono ?_; rintro e x1 ⟨A, c, rfl, hU, hR, ho⟩; obtain ⟨i1, i2⟩ := item_new x1 (.int .i64 xf) (.int .i64 xk) (.slice A xv.length c); have S3 := Go.Lib.hid ((h.read (y := ⟨xr, false⟩) hR ho).below i2); have D3 := Go.Lib.hid i1; have U3 := Go.Lib.hid (hU.keep i2); have Z3 := Go.Lib.hid (Nat.lt_of_lt_of_le h.lts.2.2.1 ho.size); clear h hU hR ho S1; obtain ⟨d0, d1, d2⟩ := i1.cells; clear i1 i2) | (trace "FELL X"; trace_state; fail_if_success skip))
                | (have h := S3.out; go_at_call 44; first | (refine (bad_any _ _ _ _ _ _ _ h.rd).mono ?_; rintro e x2 ⟨rfl, hb⟩; have S4 := Go.Lib.hid (h.below hb); have D4 := Go.Lib.hid (D3.out.keep hb); have U4 := Go.Lib.hid (U3.out.keep hb); clear hb h S3 D3 U3 d0 d1 d2; obtain ⟨d0, d1, d2⟩ := D4.out.cells; obtain ⟨s0, s1⟩ := CE.out _ _ _ _ S4.out; rw [hd] at s0; have S5 := Go.Lib.hid (show DcSt w B N (xk :: seen) a ⟨xr, false⟩ (x2.setCell ⟨w.heap.size + 1 + 1 + 1, xk, none⟩ (.bool true)) from S4.out.mark HF.out.2.1); have D5 := Go.Lib.hid (D4.out.far (i := xk) (C := w.heap.size + 1 + 1 + 1) (by have := Z3.out; omega) (.bool true)); have U5 := Go.Lib.hid (u8_only U4.out (seen_no8 S4.out.sn) (Only.set (F := fun q => q = w.heap.size + 3) (b := w.heap.size + 3) (i := xk) (Only.refl _ _) rfl (.bool true))); obtain ⟨e0, e1, e2⟩ := D5.out.cells) | (trace "FELL B"; trace_state; fail_if_success skip))
                | (have h := S5.out; go_at_call 88; first | (refine (CRD.out A c _ _ h U5.out).mono ?_; rintro e x3 ⟨rfl, ho, -⟩; have L6 := Go.Lib.hid (h.lost ho); have D6 := Go.Lib.hid (D5.out.below (fun k e => by subst e; exact ho.block _ D5.out.lt (by have := Z3.out; omega))); obtain ⟨-, -, Ap, np, cp, Ac, nc, cc, b9, -, -, -⟩ := h.box; have U6 := Go.Lib.hid (u8_only U5.out (b9.no8 n9) ho); clear h ho b9 S5 S4 D5 D4 U5 U4 d0 d1 d2 e0 e1 e2 s0 s1; obtain ⟨d0, d1, d2⟩ := D6.out.cells) | (trace "FELL R"; trace_state; fail_if_success skip))
                | (go_at_call 87; first | (refine (notice_none _ _ A _ c 11 _ (.inr rfl)).mono ?_; rintro e x4 ⟨rfl, hb⟩; have L7 := Go.Lib.hid (And.intro (L6.out.1.keep hb) (And.intro (L6.out.2.1.keep hb) (L6.out.2.2.trans (hb.mono L6.out.2.2.size)))); clear hb d0 d1 d2; obtain ⟨c0, c1, c2, c3, c4, c5, c6, c7, c8⟩ := L7.out.1.cells; have f9 := L7.out.1.free; obtain ⟨m0, m1, m2⟩ := (dec_mid L7.out.2.1 (.int .i64 0) (.int .i64 0) (.slice none 0 0) (.int .u32 0) (.int .u32 0) (.int .u32 0) (.int .u32 0) (.int .u32 0) (.slice none 0 0)).cells; have f3 := (dec_mid L7.out.2.1 (.int .i64 0) (.int .i64 0) (.slice none 0 0) (.int .u32 0) (.int .u32 0) (.int .u32 0) (.int .u32 0) (.int .u32 0) (.slice none 0 0)).free; unfold nine at m0 m1 m2 f3) | (trace "FELL N11"; trace_state; fail_if_success skip)))
              obtain ⟨k1, k2, -⟩ := dec_end L7.out.1 L7.out.2.1 L7.out.2.2 (.int .i64 0) (.int .i64 0) (.slice none 0 0) (.int .u32 0) (.int .u32 0) (.int .u32 0) (.int .u32 0) (.int .u32 0) (.slice none 0 0) (.int .i64 3) (.int .i64 11) (.slice none 0 0)
              obtain ⟨r0, r1, r2, r3, r4, r5, r6, r7, r8⟩ := k1.cells
              obtain ⟨t0, t1, t2⟩ := k2.cells
              clear k1 k2 c0 c1 c2 c3 c4 c5 c6 c7 c8 m0 m1 m2 f3 f9
              unfold three nine at r0 r1 r2 r3 r4 r5 r6 r7 r8 t0 t1 t2
              refine bodyPost_ret (v := .tuple #[.agg #[.int .i64 0, .int .i64 0, .slice none 0 0, .int .u32 0, .int .u32 0, .int .u32 0, .int .u32 0, .int .u32 0, .slice none 0 0], .agg #[.int .i64 3, .int .i64 11, .slice none 0 0]]) (by simp [results, Tryz.results46, go_sem, r0, r1, r2, r3, r4, r5, r6, r7, r8, t0, t1, t2]) rfl ?_
              exact dec_bad L7.out.1 L7.out.2.1 L7.out.2.2 HDC.out (note_three _ 11 (by decide))
            · have y1 : ((s : Int) != 0) = true := by simp; omega
              have HDC := Go.Lib.hid (show decodeA b = .inl ⟨3, s, itemB xf xk xv⟩ from HDC.out.trans (by unfold badN; rw [if_neg h11]))
              have CND := Go.Lib.hid (fun (A : Option Addr) (c : Nat) (W : World) (hu : U8s W (.slice A xv.length c) xv) => notice_data xf xk A xv c s W hu HF.out.1 HF.out.2.1 HF.out.2.2.1 HF.out.2.2.2.1 hs1 h11 hsb)
              generalize itemB xf xk xv = M at HDC CND
              clear hs0 hsb hs1 h11
              go_wp2_with (first
                | (go_at_call 47; refine (CL.out).mono ?_; rintro e x0 ⟨rfl, hb⟩; have S1 := Go.Lib.hid (ST.out.below hb); clear hb)
                | (have h := S1.out; go_at_call 86; first | (refine (CX.out _ h.rd h.box.lt.2).mono ?_; rintro e x1 ⟨A, c, rfl, hU, hR, ho⟩; obtain ⟨i1, i2⟩ := item_new x1 (.int .i64 xf) (.int .i64 xk) (.slice A xv.length c); have S3 := Go.Lib.hid ((h.read (y := ⟨xr, false⟩) hR ho).below i2); have D3 := Go.Lib.hid i1; have U3 := Go.Lib.hid (hU.keep i2); have Z3 := Go.Lib.hid (Nat.lt_of_lt_of_le h.lts.2.2.1 ho.size); clear h hU hR ho S1; obtain ⟨d0, d1, d2⟩ := i1.cells; clear i1 i2) | (trace "FELL X"; trace_state; fail_if_success skip))
                | (have h := S3.out; go_at_call 44; first | (refine (bad_any _ _ _ _ _ _ _ h.rd).mono ?_; rintro e x2 ⟨rfl, hb⟩; have S4 := Go.Lib.hid (h.below hb); have D4 := Go.Lib.hid (D3.out.keep hb); have U4 := Go.Lib.hid (U3.out.keep hb); clear hb h S3 D3 U3 d0 d1 d2; obtain ⟨d0, d1, d2⟩ := D4.out.cells; obtain ⟨s0, s1⟩ := CE.out _ _ _ _ S4.out; rw [hd] at s0; have S5 := Go.Lib.hid (show DcSt w B N (xk :: seen) a ⟨xr, false⟩ (x2.setCell ⟨w.heap.size + 1 + 1 + 1, xk, none⟩ (.bool true)) from S4.out.mark HF.out.2.1); have D5 := Go.Lib.hid (D4.out.far (i := xk) (C := w.heap.size + 1 + 1 + 1) (by have := Z3.out; omega) (.bool true)); have U5 := Go.Lib.hid (u8_only U4.out (seen_no8 S4.out.sn) (Only.set (F := fun q => q = w.heap.size + 3) (b := w.heap.size + 3) (i := xk) (Only.refl _ _) rfl (.bool true))); obtain ⟨e0, e1, e2⟩ := D5.out.cells) | (trace "FELL B"; trace_state; fail_if_success skip))
                | (have h := S5.out; go_at_call 88; first | (refine (CRD.out A c _ _ h U5.out).mono ?_; rintro e x3 ⟨rfl, ho, -⟩; have L6 := Go.Lib.hid (h.lost ho); have D6 := Go.Lib.hid (D5.out.below (fun k e => by subst e; exact ho.block _ D5.out.lt (by have := Z3.out; omega))); obtain ⟨-, -, Ap, np, cp, Ac, nc, cc, b9, -, -, -⟩ := h.box; have U6 := Go.Lib.hid (u8_only U5.out (b9.no8 n9) ho); clear h ho b9 S5 S4 D5 D4 U5 U4 d0 d1 d2 e0 e1 e2 s0 s1; obtain ⟨d0, d1, d2⟩ := D6.out.cells) | (trace "FELL R"; trace_state; fail_if_success skip))
                | (go_at_call 87; first | (refine (CND.out A c _ U6.out).mono ?_; rintro e x4 ⟨v4, rfl, hno, hb⟩; obtain ⟨vd, rfl, hnv⟩ := note_form hno; obtain ⟨Av, cv, rfl, -, -⟩ := hnv.form; have NO := Go.Lib.hid hno; have L7 := Go.Lib.hid (And.intro (L6.out.1.keep hb) (And.intro (L6.out.2.1.keep hb) (L6.out.2.2.trans (hb.mono L6.out.2.2.size)))); clear hb hno hnv d0 d1 d2; obtain ⟨c0, c1, c2, c3, c4, c5, c6, c7, c8⟩ := L7.out.1.cells; have f9 := L7.out.1.free; obtain ⟨m0, m1, m2⟩ := (dec_mid L7.out.2.1 (.int .i64 0) (.int .i64 0) (.slice none 0 0) (.int .u32 0) (.int .u32 0) (.int .u32 0) (.int .u32 0) (.int .u32 0) (.slice none 0 0)).cells; have f3 := (dec_mid L7.out.2.1 (.int .i64 0) (.int .i64 0) (.slice none 0 0) (.int .u32 0) (.int .u32 0) (.int .u32 0) (.int .u32 0) (.int .u32 0) (.slice none 0 0)).free; unfold nine at m0 m1 m2 f3) | (trace "FELL ND"; trace_state; fail_if_success skip)))
              obtain ⟨k1, k2, -⟩ := dec_end L7.out.1 L7.out.2.1 L7.out.2.2 (.int .i64 0) (.int .i64 0) (.slice none 0 0) (.int .u32 0) (.int .u32 0) (.int .u32 0) (.int .u32 0) (.int .u32 0) (.slice none 0 0) (.int .i64 3) (.int .i64 s) (.slice Av M.length cv)
              obtain ⟨r0, r1, r2, r3, r4, r5, r6, r7, r8⟩ := k1.cells
              obtain ⟨t0, t1, t2⟩ := k2.cells
              clear k1 k2 c0 c1 c2 c3 c4 c5 c6 c7 c8 m0 m1 m2 f3 f9
              unfold three nine at r0 r1 r2 r3 r4 r5 r6 r7 r8 t0 t1 t2
              refine bodyPost_ret (v := .tuple #[.agg #[.int .i64 0, .int .i64 0, .slice none 0 0, .int .u32 0, .int .u32 0, .int .u32 0, .int .u32 0, .int .u32 0, .slice none 0 0], .agg #[.int .i64 3, .int .i64 s, .slice Av M.length cv]]) (by simp [results, Tryz.results46, go_sem, r0, r1, r2, r3, r4, r5, r6, r7, r8, t0, t1, t2]) rfl ?_
              exact dec_bad L7.out.1 L7.out.2.1 L7.out.2.2 HDC.out NO.out
end Go.Proofs.YtlhdjdnflpilbaaGreatDoor.Att
namespace Go.Proofs.YtlhdjdnflpilbaaGreatDoor.Att
open Go.RowKit Mem Segm Oct Seg Nums
structure LaSt (w0 : World) (B : Nat) (y0 y1 y2 y3 y4 y5 y6 y7 y8 : Value) (W : World) : Prop where
  b9 : Box9 W B 27 y0 y1 y2 y3 y4 y5 y6 y7 y8
  on : Only (fun q => q = B) w0 W
section
variable {w0 W W2 : World} {B : Nat} {y0 y1 y2 y3 y4 y5 y6 y7 y8 u : Value}
theorem LaSt.below (h : LaSt w0 B y0 y1 y2 y3 y4 y5 y6 y7 y8 W) (hb : Below W.heap.size W W2) : LaSt w0 B y0 y1 y2 y3 y4 y5 y6 y7 y8 W2 := ⟨h.b9.keep hb, h.on.trans (Only.of hb)⟩
theorem LaSt.set1 (h : LaSt w0 B y0 y1 y2 y3 y4 y5 y6 y7 y8 W) (u : Value) : LaSt w0 B y0 u y2 y3 y4 y5 y6 y7 y8 (W.setCell ⟨B, 1, none⟩ u) := ⟨h.b9.set1 u, h.on.set rfl u⟩
theorem LaSt.set2 (h : LaSt w0 B y0 y1 y2 y3 y4 y5 y6 y7 y8 W) (u : Value) : LaSt w0 B y0 y1 u y3 y4 y5 y6 y7 y8 (W.setCell ⟨B, 2, none⟩ u) := ⟨h.b9.set2 u, h.on.set rfl u⟩
theorem LaSt.set3 (h : LaSt w0 B y0 y1 y2 y3 y4 y5 y6 y7 y8 W) (u : Value) : LaSt w0 B y0 y1 y2 u y4 y5 y6 y7 y8 (W.setCell ⟨B, 3, none⟩ u) := ⟨h.b9.set3 u, h.on.set rfl u⟩
theorem LaSt.set4 (h : LaSt w0 B y0 y1 y2 y3 y4 y5 y6 y7 y8 W) (u : Value) : LaSt w0 B y0 y1 y2 y3 u y5 y6 y7 y8 (W.setCell ⟨B, 4, none⟩ u) := ⟨h.b9.set4 u, h.on.set rfl u⟩
theorem LaSt.set5 (h : LaSt w0 B y0 y1 y2 y3 y4 y5 y6 y7 y8 W) (u : Value) : LaSt w0 B y0 y1 y2 y3 y4 u y6 y7 y8 (W.setCell ⟨B, 5, none⟩ u) := ⟨h.b9.set5 u, h.on.set rfl u⟩
theorem LaSt.set6 (h : LaSt w0 B y0 y1 y2 y3 y4 y5 y6 y7 y8 W) (u : Value) : LaSt w0 B y0 y1 y2 y3 y4 y5 u y7 y8 (W.setCell ⟨B, 6, none⟩ u) := ⟨h.b9.set6 u, h.on.set rfl u⟩
theorem LaSt.set7 (h : LaSt w0 B y0 y1 y2 y3 y4 y5 y6 y7 y8 W) (u : Value) : LaSt w0 B y0 y1 y2 y3 y4 y5 y6 u y8 (W.setCell ⟨B, 7, none⟩ u) := ⟨h.b9.set7 u, h.on.set rfl u⟩
theorem LaSt.set8 (h : LaSt w0 B y0 y1 y2 y3 y4 y5 y6 y7 y8 W) (u : Value) : LaSt w0 B y0 y1 y2 y3 y4 y5 y6 y7 u (W.setCell ⟨B, 8, none⟩ u) := ⟨h.b9.set8 u, h.on.set rfl u⟩
end
def fillR (k : Nat) (v : List Nat) : Nat :=
  if k = 1 then (if 2 < val v then 6 else 0)
  else if k = 2 then (match pathIs v with | some p => if waysP (normS p) then 0 else 11 | none => 11)
  else if k = 3 then (if hopB (val v) then 0 else 8)
  else 0
def layR (a : At) (k : Nat) (v : List Nat) : At :=
  ⟨a.has, if k = 1 then (val v : Nat) else a.origin, if k = 2 then normS ((pathIs v).getD []) else a.path, if k = 3 then val v else a.hop, if k = 4 then val v else a.med, if k = 5 then val v else a.pref,
    if k = 7 then val (v.take 4) else a.aas, if k = 7 then val (v.drop 4) else a.aid, if k = 8 then quads v else a.comms⟩
def LayF (B N : Nat) (a : At) (k : Nat) (v : List Nat) (w : World) (e : Ending) (w' : World) : Prop :=
  e = .returned (.int .i64 (fillR k v : Nat)) ∧ Only (fun q => q = B) w w' ∧ (∃ x1 x2 x3 x4 x5 x6 x7 x8, Box9 w' B 27 (.int .i64 a.has) x1 x2 x3 x4 x5 x6 x7 x8) ∧ (fillR k v = 0 → BoxA w' B N (layR a k v))
theorem quads_four {v : List Nat} (h : v.length = 4) : quads v = [val v] := by
  unfold quads
  rw [h]
  have e : quadsN v (4 / 4) = quadsN v (0 + 1) := rfl
  rw [e, quadsN_succ]
  show [] ++ [val ((v.drop (4 * 0)).take 4)] = _
  rw [List.nil_append, Nat.mul_zero, List.drop_zero, List.take_of_length_le (by omega)]
theorem quads_eight {v : List Nat} (h : v.length = 8) : quads v = [val (v.take 4), val (v.drop 4)] := by
  unfold quads
  rw [h]
  have e : quadsN v (8 / 4) = quadsN v (0 + 1 + 1) := rfl
  rw [e, quadsN_succ, quadsN_succ]
  show [] ++ [val ((v.drop (4 * 0)).take 4)] ++ [val ((v.drop (4 * 1)).take 4)] = _
  rw [List.nil_append, Nat.mul_zero, List.drop_zero, Nat.mul_one, List.take_of_length_le (l := v.drop 4) (by rw [List.length_drop]; omega)]
  rfl
theorem own_cells {W : World} {base n m : Nat} {A : Option Addr} {c : Nat} {e : TypeId} {xs : List Value} (h : W.ownsRow base e 1 (.slice A m c) n xs) (h0 : 0 < n) : ∃ g, A = some ⟨g, 0, none⟩ ∧ base ≤ g ∧ g < W.heap.size ∧ ∀ i x, xs[i]? = some x → W.cell? ⟨g, i, none⟩ = some x := by
  rcases h.2 with ⟨e1, e2⟩ | ⟨g, cap, cur, e, hg, hh, hn, hm, hs, ht⟩
  · have := h.1
    subst e2
    simp at this
    omega
  · injection e with e1 e2 e3
    refine ⟨g, e1, hg, (Array.getElem?_eq_some_iff.1 hh).1, fun i x hx => ?_⟩
    rw [← ht, List.getElem?_take] at hx
    split at hx
    · simpa [World.cell?, hh] using hx
    · cases hx
theorem cell_set {W : World} {B i g j : Nat} {u x : Value} (h : W.cell? ⟨g, j, none⟩ = some x) (hne : g ≠ B) : (W.setCell ⟨B, i, none⟩ u).cell? ⟨g, j, none⟩ = some x := by
  rw [← h]
  exact World.cell?_of_block (Go.RowKit.Below.heap_setCell _ _ _ _ hne)
theorem nums_one (v : Value) (l : List Nat) (w : World) (hv : U8s w v l) (h : l.length = 4) : Calls Tryz.prog 112 #[v] w (fun e w' => ∃ g c, e = .returned (.slice (some ⟨g, 0, none⟩) 1 c) ∧ 1 ≤ c ∧ w.heap.size ≤ g ∧ w'.cell? ⟨g, 0, none⟩ = some (.int .u32 (val l)) ∧ Below w.heap.size w w') :=
  (nums8_any v l w hv (by omega)).mono fun e w' h1 => by
    obtain ⟨vn, rfl, ho, hb⟩ := h1
    rw [quads_four h] at ho
    obtain ⟨A, c, rfl⟩ := own_form ho
    obtain ⟨_, A2, c2, e2, hc, _⟩ := Row.of_own ho
    injection e2 with _ _ e3
    subst e3
    obtain ⟨g, rfl, hg, -, hcell⟩ := own_cells ho (by simp)
    exact ⟨g, c, rfl, hc, hg, hcell 0 _ rfl, hb⟩
theorem nums_two (v : Value) (l : List Nat) (w : World) (hv : U8s w v l) (h : l.length = 8) : Calls Tryz.prog 112 #[v] w (fun e w' => ∃ g c, e = .returned (.slice (some ⟨g, 0, none⟩) 2 c) ∧ 2 ≤ c ∧ w.heap.size ≤ g ∧ w'.cell? ⟨g, 0, none⟩ = some (.int .u32 (val (l.take 4))) ∧ w'.cell? ⟨g, 1, none⟩ = some (.int .u32 (val (l.drop 4))) ∧ Below w.heap.size w w') :=
  (nums8_any v l w hv (by omega)).mono fun e w' h1 => by
    obtain ⟨vn, rfl, ho, hb⟩ := h1
    rw [quads_eight h] at ho
    obtain ⟨A, c, rfl⟩ := own_form ho
    obtain ⟨_, A2, c2, e2, hc, _⟩ := Row.of_own ho
    injection e2 with _ _ e3
    subst e3
    obtain ⟨g, rfl, hg, -, hcell⟩ := own_cells ho (by simp)
    exact ⟨g, c, rfl, hc, hg, hcell 0 _ rfl, hcell 1 _ rfl, hb⟩
theorem nums_any (v : Value) (l : List Nat) (w : World) (hv : U8s w v l) (h : l.length ≤ 4000) : Calls Tryz.prog 112 #[v] w (fun e w' => ∃ A n c, e = .returned (.slice A n c) ∧ U32s w' (.slice A n c) (quads l) ∧ NewAt w.heap.size (.slice A n c) ∧ Below w.heap.size w w') :=
  (nums8_any v l w hv h).mono fun e w' h1 => by
    obtain ⟨vn, rfl, ho, hb⟩ := h1
    obtain ⟨A, c, rfl⟩ := own_form ho
    exact ⟨A, _, c, rfl, U32s.of_own ho (quads_lt hv.2 _), own_new ho (Nat.le_refl _), hb⟩
theorem far_of {B N M g : Nat} (h : B < N ∧ N ≤ M) (hg : M ≤ g) : g ≠ B := by omega
set_option maxRecDepth 100000 in
set_option maxHeartbeats 4000000 in
theorem lay4 (A : Option Addr) (c : Nat) (v : List Nat) (w : World) (B N : Nat) (a : At) (hA : BoxA w B N a) (hv : U8s w (.slice A v.length c) v) (hl : v.length = 4) :
    Calls Tryz.prog 92 #[.pointer (some ⟨B, 0, none⟩), .int .i64 4, .slice A v.length c] w (LayF B N a 4 v w) := by
  obtain ⟨hok, hlt, Ap, np, cp, Ac, nc, cc, h9, hp, hc, hn⟩ := hA
  have HS := Go.Lib.hid hv.2
  have HU := Go.Lib.hid hv
  have HOK := Go.Lib.hid hok
  have HP := Go.Lib.hid hp
  have HC := Go.Lib.hid (And.intro hc hn)
  have H9 := Go.Lib.hid h9
  obtain ⟨hh, ho, hpt, hh3, hh4, hh5, hh6, hh7, hh8⟩ := a
  dsimp only at hp h9 hc hok HP HC H9 HOK
  have HV := Go.Lib.hid (val32 HS.out (by omega))
  have CNM := Go.Lib.hid (nums_one _ v w hv hl)
  clear hv hp hc hn h9 hok hl
  go_enter Tryz.func92, Tryz.ntmps92
  go_wp2_with (go_at_call 112; first | (refine (CNM.out).mono ?_; rintro e x ⟨g, cn, rfl, hcn, hg, n0, hb⟩; have S1 := Go.Lib.hid ((show LaSt w B (.int .i64 hh) (.int .i64 ho) (.slice Ap np cp) (.int .u32 hh3) (.int .u32 hh4) (.int .u32 hh5) (.int .u32 hh6) (.int .u32 hh7) (.slice Ac nc cc) w from ⟨H9.out, Only.refl _ _⟩).below hb); have HG := Go.Lib.hid hg; have hgB : g ≠ B := far_of hlt hg; clear hb hg; obtain ⟨c0, c1, c2, c3, c4, c5, c6, c7, c8⟩ := S1.out.b9.cells; have fB := S1.out.b9.free) | (trace "FELL N"; trace_state; fail_if_success skip))
  have S2 := Go.Lib.hid (S1.out.set4 (.int .u32 (val v)))
  go_ret
  refine ⟨rfl, S2.out.on, ⟨_, _, _, _, _, _, _, _, S2.out.b9⟩, fun _ => ?_⟩
  exact ⟨⟨HOK.out.1, HOK.out.2.1, HOK.out.2.2.1, HV.out, HOK.out.2.2.2.2⟩, ⟨hlt.1, Nat.le_trans hlt.2 S2.out.on.size⟩, Ap, np, cp, Ac, nc, cc, S2.out.b9, segs_on HP.out S2.out.on (fun k e => by subst e; exact hlt.1), u32_on HC.out.1 HC.out.2 S2.out.on (fun k e => by subst e; exact hlt.1), HC.out.2⟩
set_option maxRecDepth 100000 in
set_option maxHeartbeats 4000000 in
theorem lay5 (A : Option Addr) (c : Nat) (v : List Nat) (w : World) (B N : Nat) (a : At) (hA : BoxA w B N a) (hv : U8s w (.slice A v.length c) v) (hl : v.length = 4) :
    Calls Tryz.prog 92 #[.pointer (some ⟨B, 0, none⟩), .int .i64 5, .slice A v.length c] w (LayF B N a 5 v w) := by
  obtain ⟨hok, hlt, Ap, np, cp, Ac, nc, cc, h9, hp, hc, hn⟩ := hA
  have HS := Go.Lib.hid hv.2
  have HU := Go.Lib.hid hv
  have HOK := Go.Lib.hid hok
  have HP := Go.Lib.hid hp
  have HC := Go.Lib.hid (And.intro hc hn)
  have H9 := Go.Lib.hid h9
  obtain ⟨hh, ho, hpt, hh3, hh4, hh5, hh6, hh7, hh8⟩ := a
  dsimp only at hp h9 hc hok HP HC H9 HOK
  have HV := Go.Lib.hid (val32 HS.out (by omega))
  have CNM := Go.Lib.hid (nums_one _ v w hv hl)
  clear hv hp hc hn h9 hok hl
  go_enter Tryz.func92, Tryz.ntmps92
  go_wp2_with (go_at_call 112; first | (refine (CNM.out).mono ?_; rintro e x ⟨g, cn, rfl, hcn, hg, n0, hb⟩; have S1 := Go.Lib.hid ((show LaSt w B (.int .i64 hh) (.int .i64 ho) (.slice Ap np cp) (.int .u32 hh3) (.int .u32 hh4) (.int .u32 hh5) (.int .u32 hh6) (.int .u32 hh7) (.slice Ac nc cc) w from ⟨H9.out, Only.refl _ _⟩).below hb); have HG := Go.Lib.hid hg; have hgB : g ≠ B := far_of hlt hg; clear hb hg; obtain ⟨c0, c1, c2, c3, c4, c5, c6, c7, c8⟩ := S1.out.b9.cells; have fB := S1.out.b9.free) | (trace "FELL N"; trace_state; fail_if_success skip))
  have S2 := Go.Lib.hid (S1.out.set5 (.int .u32 (val v)))
  go_ret
  refine ⟨rfl, S2.out.on, ⟨_, _, _, _, _, _, _, _, S2.out.b9⟩, fun _ => ?_⟩
  exact ⟨⟨HOK.out.1, HOK.out.2.1, HOK.out.2.2.1, HOK.out.2.2.2.1, HV.out, HOK.out.2.2.2.2.2⟩, ⟨hlt.1, Nat.le_trans hlt.2 S2.out.on.size⟩, Ap, np, cp, Ac, nc, cc, S2.out.b9, segs_on HP.out S2.out.on (fun k e => by subst e; exact hlt.1), u32_on HC.out.1 HC.out.2 S2.out.on (fun k e => by subst e; exact hlt.1), HC.out.2⟩
set_option maxRecDepth 100000 in
set_option maxHeartbeats 4000000 in
theorem lay3 (A : Option Addr) (c : Nat) (v : List Nat) (w : World) (B N : Nat) (a : At) (hA : BoxA w B N a) (hv : U8s w (.slice A v.length c) v) (hl : v.length = 4) :
    Calls Tryz.prog 92 #[.pointer (some ⟨B, 0, none⟩), .int .i64 3, .slice A v.length c] w (LayF B N a 3 v w) := by
  obtain ⟨hok, hlt, Ap, np, cp, Ac, nc, cc, h9, hp, hc, hn⟩ := hA
  have HS := Go.Lib.hid hv.2
  have HU := Go.Lib.hid hv
  have HOK := Go.Lib.hid hok
  have HP := Go.Lib.hid hp
  have HC := Go.Lib.hid (And.intro hc hn)
  have H9 := Go.Lib.hid h9
  obtain ⟨hh, ho, hpt, hh3, hh4, hh5, hh6, hh7, hh8⟩ := a
  dsimp only at hp h9 hc hok HP HC H9 HOK
  have HV := Go.Lib.hid (val32 HS.out (by omega))
  have CNM := Go.Lib.hid (nums_one _ v w hv hl)
  have CH := Go.Lib.hid (fun W => refHop8 (val v) W HV.out)
  clear hv hp hc hn h9 hok hl
  cases hh2 : hopB (val v) with
  | false =>
    have HE := Go.Lib.hid (show fillR 3 v = 8 by simp [fillR, hh2])
    rw [hh2] at CH
    clear hh2
    unfold LayF
    rw [HE.out]
    go_enter Tryz.func92, Tryz.ntmps92
    go_wp2_with (first
      | (go_at_call 112; first | (refine (CNM.out).mono ?_; rintro e x ⟨g, cn, rfl, hcn, hg, n0, hb⟩; have S1 := Go.Lib.hid ((show LaSt w B (.int .i64 hh) (.int .i64 ho) (.slice Ap np cp) (.int .u32 hh3) (.int .u32 hh4) (.int .u32 hh5) (.int .u32 hh6) (.int .u32 hh7) (.slice Ac nc cc) w from ⟨H9.out, Only.refl _ _⟩).below hb); have HG := Go.Lib.hid hg; have hgB : g ≠ B := far_of hlt hg; clear hb hg; obtain ⟨c0, c1, c2, c3, c4, c5, c6, c7, c8⟩ := S1.out.b9.cells; have fB := S1.out.b9.free) | (trace "FELL N"; trace_state; fail_if_success skip))
      | (go_at_call 78; first | (refine (CH.out _).mono ?_; rintro e y ⟨rfl, hb⟩; have S3 := Go.Lib.hid ((S1.out.set3 (.int .u32 (val v))).below hb); clear hb) | (trace "FELL H"; trace_state; fail_if_success skip)))
    go_ret
    refine ⟨rfl, S3.out.on, ⟨_, _, _, _, _, _, _, _, S3.out.b9⟩, fun hz => ?_⟩
    cases hz
  | true =>
    have HE := Go.Lib.hid (show fillR 3 v = 0 by simp [fillR, hh2])
    rw [hh2] at CH
    clear hh2
    unfold LayF
    rw [HE.out]
    go_enter Tryz.func92, Tryz.ntmps92
    go_wp2_with (first
      | (go_at_call 112; first | (refine (CNM.out).mono ?_; rintro e x ⟨g, cn, rfl, hcn, hg, n0, hb⟩; have S1 := Go.Lib.hid ((show LaSt w B (.int .i64 hh) (.int .i64 ho) (.slice Ap np cp) (.int .u32 hh3) (.int .u32 hh4) (.int .u32 hh5) (.int .u32 hh6) (.int .u32 hh7) (.slice Ac nc cc) w from ⟨H9.out, Only.refl _ _⟩).below hb); have HG := Go.Lib.hid hg; have hgB : g ≠ B := far_of hlt hg; clear hb hg; obtain ⟨c0, c1, c2, c3, c4, c5, c6, c7, c8⟩ := S1.out.b9.cells; have fB := S1.out.b9.free) | (trace "FELL N"; trace_state; fail_if_success skip))
      | (go_at_call 78; first | (refine (CH.out _).mono ?_; rintro e y ⟨rfl, hb⟩; have S3 := Go.Lib.hid ((S1.out.set3 (.int .u32 (val v))).below hb); clear hb) | (trace "FELL H"; trace_state; fail_if_success skip)))
    go_ret
    refine ⟨rfl, S3.out.on, ⟨_, _, _, _, _, _, _, _, S3.out.b9⟩, fun hz => ?_⟩
    exact ⟨⟨HOK.out.1, HOK.out.2.1, HV.out, HOK.out.2.2.2⟩, ⟨hlt.1, Nat.le_trans hlt.2 S3.out.on.size⟩, Ap, np, cp, Ac, nc, cc, S3.out.b9, segs_on HP.out S3.out.on (fun k e => by subst e; exact hlt.1), u32_on HC.out.1 HC.out.2 S3.out.on (fun k e => by subst e; exact hlt.1), HC.out.2⟩
set_option maxRecDepth 100000 in
set_option maxHeartbeats 4000000 in
theorem lay6 (A : Option Addr) (c : Nat) (v : List Nat) (w : World) (B N : Nat) (a : At) (hA : BoxA w B N a) (hv : U8s w (.slice A v.length c) v) (hl : v.length ≤ 4000) :
    Calls Tryz.prog 92 #[.pointer (some ⟨B, 0, none⟩), .int .i64 6, .slice A v.length c] w (LayF B N a 6 v w) := by
  obtain ⟨hok, hlt, Ap, np, cp, Ac, nc, cc, h9, hp, hc, hn⟩ := hA
  have HOK := Go.Lib.hid hok
  have HP := Go.Lib.hid hp
  have HC := Go.Lib.hid (And.intro hc hn)
  have H9 := Go.Lib.hid h9
  obtain ⟨hh, ho, hpt, hh3, hh4, hh5, hh6, hh7, hh8⟩ := a
  dsimp only at hp h9 hc hok HP HC H9 HOK
  have CNM := Go.Lib.hid (nums_any _ v w hv hl)
  clear hv hp hc hn h9 hok hl
  go_enter Tryz.func92, Tryz.ntmps92
  go_wp2_with (go_at_call 112; first | (refine (CNM.out).mono ?_; rintro e x ⟨An, nn, cn, rfl, hU, hN, hb⟩; have S1 := Go.Lib.hid ((show LaSt w B (.int .i64 hh) (.int .i64 ho) (.slice Ap np cp) (.int .u32 hh3) (.int .u32 hh4) (.int .u32 hh5) (.int .u32 hh6) (.int .u32 hh7) (.slice Ac nc cc) w from ⟨H9.out, Only.refl _ _⟩).below hb); have HN := Go.Lib.hid (And.intro hU hN); clear hb hU hN; obtain ⟨c0, c1, c2, c3, c4, c5, c6, c7, c8⟩ := S1.out.b9.cells; have fB := S1.out.b9.free) | (trace "FELL N"; trace_state; fail_if_success skip))
  go_ret
  refine ⟨rfl, S1.out.on, ⟨_, _, _, _, _, _, _, _, S1.out.b9⟩, fun _ => ?_⟩
  exact ⟨HOK.out, ⟨hlt.1, Nat.le_trans hlt.2 S1.out.on.size⟩, Ap, np, cp, Ac, nc, cc, S1.out.b9, segs_on HP.out S1.out.on (fun k e => by subst e; exact hlt.1), u32_on HC.out.1 HC.out.2 S1.out.on (fun k e => by subst e; exact hlt.1), HC.out.2⟩
set_option maxRecDepth 100000 in
set_option maxHeartbeats 4000000 in
theorem lay8 (A : Option Addr) (c : Nat) (v : List Nat) (w : World) (B N : Nat) (a : At) (hA : BoxA w B N a) (hv : U8s w (.slice A v.length c) v) (hl : v.length ≤ 4000) :
    Calls Tryz.prog 92 #[.pointer (some ⟨B, 0, none⟩), .int .i64 8, .slice A v.length c] w (LayF B N a 8 v w) := by
  obtain ⟨hok, hlt, Ap, np, cp, Ac, nc, cc, h9, hp, hc, hn⟩ := hA
  have HOK := Go.Lib.hid hok
  have HP := Go.Lib.hid hp
  have HC := Go.Lib.hid (And.intro hc hn)
  have H9 := Go.Lib.hid h9
  obtain ⟨hh, ho, hpt, hh3, hh4, hh5, hh6, hh7, hh8⟩ := a
  dsimp only at hp h9 hc hok HP HC H9 HOK
  have CNM := Go.Lib.hid (nums_any _ v w hv hl)
  clear hv hp hc hn h9 hok hl
  go_enter Tryz.func92, Tryz.ntmps92
  go_wp2_with (go_at_call 112; first | (refine (CNM.out).mono ?_; rintro e x ⟨An, nn, cn, rfl, hU, hN, hb⟩; have S1 := Go.Lib.hid ((show LaSt w B (.int .i64 hh) (.int .i64 ho) (.slice Ap np cp) (.int .u32 hh3) (.int .u32 hh4) (.int .u32 hh5) (.int .u32 hh6) (.int .u32 hh7) (.slice Ac nc cc) w from ⟨H9.out, Only.refl _ _⟩).below hb); have HN := Go.Lib.hid (And.intro hU hN); clear hb hU hN; obtain ⟨c0, c1, c2, c3, c4, c5, c6, c7, c8⟩ := S1.out.b9.cells; have fB := S1.out.b9.free) | (trace "FELL N"; trace_state; fail_if_success skip))
  have S2 := Go.Lib.hid (S1.out.set8 (.slice An nn cn))
  go_ret
  refine ⟨rfl, S2.out.on, ⟨_, _, _, _, _, _, _, _, S2.out.b9⟩, fun _ => ?_⟩
  exact ⟨HOK.out, ⟨hlt.1, Nat.le_trans hlt.2 S2.out.on.size⟩, Ap, np, cp, An, nn, cn, S2.out.b9, segs_on HP.out S2.out.on (fun k e => by subst e; exact hlt.1), u32_off HN.out.1 (HN.out.2.lower hlt.2) (off_set _ hlt.1) (by simp), HN.out.2.lower hlt.2⟩
set_option maxRecDepth 100000 in
set_option maxHeartbeats 4000000 in
theorem lay1 (A : Option Addr) (c : Nat) (v : List Nat) (w : World) (B N : Nat) (a : At) (hA : BoxA w B N a) (hv : U8s w (.slice A v.length c) v) (hl : v.length = 1) :
    Calls Tryz.prog 92 #[.pointer (some ⟨B, 0, none⟩), .int .i64 1, .slice A v.length c] w (LayF B N a 1 v w) := by
  obtain ⟨hok, hlt, Ap, np, cp, Ac, nc, cc, h9, hp, hc, hn⟩ := hA
  have HS := Go.Lib.hid hv.2
  have HU := Go.Lib.hid hv
  have HOK := Go.Lib.hid hok
  have HP := Go.Lib.hid hp
  have HC := Go.Lib.hid (And.intro hc hn)
  have H9 := Go.Lib.hid h9
  obtain ⟨hh, ho, hpt, hh3, hh4, hh5, hh6, hh7, hh8⟩ := a
  dsimp only at hp h9 hc hok HP HC H9 HOK
  have CNM := Go.Lib.hid (nums_any _ v w hv (by omega))
  obtain ⟨b, off, o, rfl, hbl, hvo, ho8, co⟩ := hv.at_ (k := 0) (by omega)
  rw [Nat.add_zero] at co
  have hval : val v = o := by
    match v, hl, hvo with
    | [y], _, hvo =>
      injection hvo with hvo
      subst hvo
      show 0 * 256 + y = y
      omega
  have hoB : b ≠ B := fun e => by subst e; exact (h9.no8 n9) _ _ co
  have HKO := Go.Lib.hid (fun (W : World) (hb : Below w.heap.size w W) => keeps hb co)
  have HV := Go.Lib.hid (show (Lit.int .i64 ((o : Nat) : Int)).wf = true by simp [Lit.wf, IntKind.min, IntKind.max, IntKind.signed, IntKind.bits]; omega)
  obtain ⟨L, hL⟩ : ∃ L, L = v.length := ⟨_, rfl⟩
  have z0 : (0 : Int) < (L : Int) := by omega
  rw [← hL] at CNM ⊢
  clear hv hp hc hn h9 hok hl hL hvo co
  unfold LayF layR fillR
  simp only [hval, if_true]
  clear hval
  by_cases h2 : 2 < o
  · have z1 : (o : Int) > 2 := by omega
    rw [if_pos h2]
    clear h2
    go_enter Tryz.func92, Tryz.ntmps92
    go_wp2_with (go_at_call 112; first | (refine (CNM.out).mono ?_; rintro e x ⟨An, nn, cn, rfl, hU, hN, hb⟩; have S1 := Go.Lib.hid ((show LaSt w B (.int .i64 hh) (.int .i64 ho) (.slice Ap np cp) (.int .u32 hh3) (.int .u32 hh4) (.int .u32 hh5) (.int .u32 hh6) (.int .u32 hh7) (.slice Ac nc cc) w from ⟨H9.out, Only.refl _ _⟩).below hb); have HN := Go.Lib.hid (And.intro hU hN); have HBX := Go.Lib.hid hb; clear hb hU hN; obtain ⟨c0, c1, c2, c3, c4, c5, c6, c7, c8⟩ := S1.out.b9.cells; have fB := S1.out.b9.free; have k0 := HKO.out _ HBX.out; have k1 := cell_set (B := B) (i := 1) (u := .int .i64 o) k0 hoB) | (trace "FELL N"; trace_state; fail_if_success skip))
    have S2 := Go.Lib.hid (S1.out.set1 (.int .i64 o))
    go_ret
    exact ⟨rfl, S2.out.on, _, _, _, _, _, _, _, _, S2.out.b9⟩
  · have z1 : decide ((2 : Int) < (o : Int)) = false := decide_eq_false (by omega)
    rw [if_neg h2]
    clear h2
    go_enter Tryz.func92, Tryz.ntmps92
    go_wp2_with (go_at_call 112; first | (refine (CNM.out).mono ?_; rintro e x ⟨An, nn, cn, rfl, hU, hN, hb⟩; have S1 := Go.Lib.hid ((show LaSt w B (.int .i64 hh) (.int .i64 ho) (.slice Ap np cp) (.int .u32 hh3) (.int .u32 hh4) (.int .u32 hh5) (.int .u32 hh6) (.int .u32 hh7) (.slice Ac nc cc) w from ⟨H9.out, Only.refl _ _⟩).below hb); have HN := Go.Lib.hid (And.intro hU hN); have HBX := Go.Lib.hid hb; clear hb hU hN; obtain ⟨c0, c1, c2, c3, c4, c5, c6, c7, c8⟩ := S1.out.b9.cells; have fB := S1.out.b9.free; have k0 := HKO.out _ HBX.out; have k1 := cell_set (B := B) (i := 1) (u := .int .i64 o) k0 hoB) | (trace "FELL N"; trace_state; fail_if_success skip))
    have S2 := Go.Lib.hid (S1.out.set1 (.int .i64 o))
    go_ret
    refine ⟨rfl, S2.out.on, ⟨_, _, _, _, _, _, _, _, S2.out.b9⟩, ?_⟩
    exact ⟨⟨HOK.out.1, HV.out, HOK.out.2.2⟩, ⟨hlt.1, Nat.le_trans hlt.2 S2.out.on.size⟩, Ap, np, cp, Ac, nc, cc, S2.out.b9, segs_on HP.out S2.out.on (fun k e => by subst e; exact hlt.1), u32_on HC.out.1 HC.out.2 S2.out.on (fun k e => by subst e; exact hlt.1), HC.out.2⟩
end Go.Proofs.YtlhdjdnflpilbaaGreatDoor.Att
