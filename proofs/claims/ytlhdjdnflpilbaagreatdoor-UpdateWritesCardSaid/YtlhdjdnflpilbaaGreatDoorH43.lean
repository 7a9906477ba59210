/- The program's Decode. Plain mathematics: what good attributes are written as is read as they are. It speaks of no function of the program. What a good Update is written as is read as it is. It speaks of no function of the program. Good attributes as they lie in memory are good ones of small numbers; their bytes are small. -/
import Derived.Test.YtlhdjdnflpilbaaGreatDoorH42
import Derived.Test.YtlhdjdnflpilbaaGreatDoorH25
import Derived.Test.YtlhdjdnflpilbaaGreatDoorH23
import Derived.Test.YtlhdjdnflpilbaaGreatDoorH15
namespace Go.Proofs.YtlhdjdnflpilbaaGreatDoor.Att
open Go.RowKit Mem Segm Oct Seg
def seenA (l : List Nat) : Array Value := ((List.range 256).map fun i => Value.bool (decide (i ∈ l))).toArray
theorem seenA_at (l : List Nat) {k : Nat} (hk : k < 256) : (seenA l)[k]? = some (.bool (decide (k ∈ l))) := by
 unfold seenA
 simp [hk]
theorem seenA_set (l : List Nat) {k : Nat} (hk : k < 256) : (seenA l).setIfInBounds k (.bool true) = seenA (k :: l) := by
 apply Array.ext_getElem?
 intro i
 rw [Array.getElem?_setIfInBounds]
 by_cases hi : i < 256
 ·rw [seenA_at (k :: l) hi]
  by_cases h : k = i
  ·subst h
   have : k < (seenA l).size := by simp [seenA]; exact hk
   simp [this]
  ·rw [if_neg h, seenA_at l hi]
   have e : (i ∈ k :: l) ↔ i ∈ l := by
    rw [List.mem_cons]
    exact ⟨fun q => q.elim (fun q => absurd q.symm h) id, Or.inr⟩
   rw [decide_eq_decide.2 e]
 ·have h1 : (seenA l)[i]? = none := by simp [seenA]; omega
  have h2 : (seenA (k :: l))[i]? = none := by simp [seenA]; omega
  rw [if_neg (by omega), h1, h2]
theorem seen_zero : Tryz.zeroCells109 = seenA [] := by kernel_rfl
theorem rd_only {W W' : World} {base n B : Nat} {v : Value} {l : List Nat} {bad : Bool} {F : Nat → Prop} (h : R W base n v l bad F) (hB : ∀ i n, W.cell? ⟨B, i, none⟩ ≠ some (.int .u8 n)) (hb : B < base) (ho : Only (fun q => q = B) W W') : R W' base n v l bad F := by
 rcases h with h | ⟨b, s, h1, h2, h3, h4, h5, h6, h7, h8⟩
 ·exact .inl h
 ·exact .inr ⟨b, s, h1, h2, h3, Nat.le_trans h4 ho.size, (ho.block b (by omega) (by omega)).trans h5, u8_only h6 hB ho, h7, h8⟩
def cellLen (W : World) (b : Nat) : Nat := match W.cell? ⟨b, 0, none⟩ with
 | some (.slice _ n _) => n
 | _ => 0
theorem cellLen_is {W : World} {base n b : Nat} {l : List Nat} {bad : Bool} {F : Nat → Prop} (h : R W base n (.pointer (some ⟨b, 0, none⟩)) l bad F) : cellLen W b = l.length := by
 rcases h with ⟨h, _⟩ | ⟨b', s, h1, _, _, _, h5, h6, _⟩
 ·cases h
 ·injection h1 with h1
  injection h1 with h1
  injection h1 with h1
  subst h1
  obtain ⟨A, c, rfl, _, _⟩ := h6.form
  unfold cellLen
  rw [(cell0 h5).1]
structure DcSt (w0 : World) (b N : Nat) (seen : List Nat) (a : At) (x : Rd) (W : World) : Prop where
 r9 : Box9 W w0.heap.size 27 (.int .i64 0) (.int .i64 0) (.slice none 0 0) (.int .u32 0) (.int .u32 0) (.int .u32 0) (.int .u32 0) (.int .u32 0) (.slice none 0 0)
 n3 : Box3 W (w0.heap.size + 1) 41 (.int .i64 0) (.int .i64 0) (.slice none 0 0)
 box : BoxA W (w0.heap.size + 2) N a
 sn : W.heap[w0.heap.size + 3]? = some (.cells (seenA seen) 109)
 rd : R W (w0.heap.size + 4) N (.pointer (some ⟨b, 0, none⟩)) x.l x.b (fun q => q = b)
 low : Below w0.heap.size w0 W
section
variable {w0 W W2 : World} {b N : Nat} {seen : List Nat} {a a2 : At} {x y : Rd}
theorem DcSt.lts (h : DcSt w0 b N seen a x W) : w0.heap.size < W.heap.size ∧ w0.heap.size + 1 < W.heap.size ∧ w0.heap.size + 3 < W.heap.size ∧ w0.heap.size + 4 ≤ b ∧ b < N ∧ N ≤ W.heap.size :=
 ⟨h.r9.lt, h.n3.lt, (Array.getElem?_eq_some_iff.1 h.sn).1, (h.rd.low b rfl).1, (h.rd.low b rfl).2, h.box.lt.2⟩
theorem DcSt.below (h : DcSt w0 b N seen a x W) (hb : Below W.heap.size W W2) : DcSt w0 b N seen a x W2 :=
 ⟨h.r9.keep hb, h.n3.keep hb, h.box.below hb, (hb.block _ h.lts.2.2.1).trans h.sn, h.rd.below hb, h.low.trans (hb.mono h.low.size)⟩
theorem DcSt.read (h : DcSt w0 b N seen a x W) (hr : R W2 (w0.heap.size + 4) N (.pointer (some ⟨b, 0, none⟩)) y.l y.b (fun q => q = b)) (ho : Only (fun q => q = b) W W2) : DcSt w0 b N seen a y W2 := by
 obtain ⟨h1, h2, h3, h4, h5, h6⟩ := h.lts
 exact ⟨⟨(ho.block _ h1 (by omega)).trans h.r9.blk⟩, ⟨(ho.block _ h2 (by omega)).trans h.n3.blk⟩, h.box.on ho (fun k e => by subst e; omega), (ho.block _ h3 (by omega)).trans h.sn, hr, h.low.trans (ho.below (fun k e => by subst e; omega) h.low.size)⟩
theorem DcSt.fill (h : DcSt w0 b N seen a x W) (ho : Only (fun q => q = w0.heap.size + 2) W W2) (hA : BoxA W2 (w0.heap.size + 2) N a2) : DcSt w0 b N seen a2 x W2 := by
 obtain ⟨h1, h2, h3, h4, h5, h6⟩ := h.lts
 obtain ⟨-, -, Ap, np, cp, Ac, nc, cc, b9, -, -, -⟩ := h.box
 exact ⟨⟨(ho.block _ h1 (by omega)).trans h.r9.blk⟩, ⟨(ho.block _ h2 (by omega)).trans h.n3.blk⟩, hA, (ho.block _ h3 (by omega)).trans h.sn, rd_only h.rd (b9.no8 n9) (by omega) ho, h.low.trans (ho.below (fun k e => by subst e; omega) h.low.size)⟩
theorem DcSt.lost (h : DcSt w0 b N seen a x W) (ho : Only (fun q => q = w0.heap.size + 2) W W2) : Box9 W2 w0.heap.size 27 (.int .i64 0) (.int .i64 0) (.slice none 0 0) (.int .u32 0) (.int .u32 0) (.int .u32 0) (.int .u32 0) (.int .u32 0) (.slice none 0 0) ∧ Box3 W2 (w0.heap.size + 1) 41 (.int .i64 0) (.int .i64 0) (.slice none 0 0) ∧ Below w0.heap.size w0 W2 := by
 obtain ⟨h1, h2, h3, h4, h5, h6⟩ := h.lts
 exact ⟨⟨(ho.block _ h1 (by omega)).trans h.r9.blk⟩, ⟨(ho.block _ h2 (by omega)).trans h.n3.blk⟩, h.low.trans (ho.below (fun k e => by subst e; omega) h.low.size)⟩
theorem seen_no8 (h : W.heap[w0.heap.size + 3]? = some (.cells (seenA seen) 109)) (i : Nat) (n : Int) : W.cell? ⟨w0.heap.size + 3, i, none⟩ ≠ some (.int .u8 n) :=
 no8_cells h (fun u hu => by
  unfold seenA at hu
  simp only [List.mem_toArray, List.mem_map] at hu
  obtain ⟨j, _, rfl⟩ := hu
  exact no8_b _) i n
theorem DcSt.mark (h : DcSt w0 b N seen a x W) {k : Nat} (hk : k < 256) : DcSt w0 b N (k :: seen) a x (W.setCell ⟨w0.heap.size + 3, k, none⟩ (.bool true)) := by
 obtain ⟨h1, h2, h3, h4, h5, h6⟩ := h.lts
 have ho : Only (fun q => q = w0.heap.size + 3) W (W.setCell ⟨w0.heap.size + 3, k, none⟩ (.bool true)) := Only.set (F := fun q => q = w0.heap.size + 3) (b := w0.heap.size + 3) (i := k) (Only.refl _ _) rfl _
 have hN := h.box.lt.1
 refine ⟨⟨(ho.block _ h1 (by omega)).trans h.r9.blk⟩, ⟨(ho.block _ h2 (by omega)).trans h.n3.blk⟩, h.box.on ho (fun k e => by subst e; omega), ?_, rd_only h.rd (seen_no8 h.sn) (by omega) ho, h.low.trans (ho.below (fun k e => by subst e; omega) h.low.size)⟩
 rw [Go.Joins.block_setCell h.sn, seenA_set seen hk]
theorem DcSt.seen_cell (h : DcSt w0 b N seen a x W) {k : Nat} (hk : k < 256) : W.cell? ⟨w0.heap.size + 3, k, none⟩ = some (.bool (decide (k ∈ seen))) ∧ W.frozen? ⟨w0.heap.size + 3, k, none⟩ = false := by
 refine ⟨?_, Go.Joins.unfrozen_of_block h.sn k⟩
 have := seenA_at seen hk
 simp only [World.cell?, h.sn]
 simpa using this
end
structure DcStart (w0 W : World) : Prop where
 r9 : Box9 W w0.heap.size 27 (.int .i64 0) (.int .i64 0) (.slice none 0 0) (.int .u32 0) (.int .u32 0) (.int .u32 0) (.int .u32 0) (.int .u32 0) (.slice none 0 0)
 n3 : Box3 W (w0.heap.size + 1) 41 (.int .i64 0) (.int .i64 0) (.slice none 0 0)
 b9 : Box9 W (w0.heap.size + 2) 27 (.int .i64 0) (.int .i64 0) (.slice none 0 0) (.int .u32 0) (.int .u32 0) (.int .u32 0) (.int .u32 0) (.int .u32 0) (.slice none 0 0)
 sn : W.heap[w0.heap.size + 3]? = some (.cells (seenA []) 109)
 size : W.heap.size = w0.heap.size + 4
 low : Below w0.heap.size w0 W
theorem DcStart.start {w0 W W2 : World} {b : Nat} {l : List Nat} (h : DcStart w0 W) (hr : R W2 W.heap.size W2.heap.size (.pointer (some ⟨b, 0, none⟩)) l false (fun q => q = b)) (hb : Below W.heap.size W W2) : DcSt w0 b W2.heap.size [] zeroA ⟨l, false⟩ W2 := by
 have hs := hb.size
 rw [h.size] at hr hs
 refine ⟨h.r9.keep hb, h.n3.keep hb, ⟨zeroA_ok, ⟨by omega, Nat.le_refl _⟩, none, 0, 0, none, 0, 0, h.b9.keep hb, nil_segsF _ _ _, U32s.nil _, NewAt.nil _⟩, (hb.block _ (by rw [h.size]; omega)).trans h.sn, hr, h.low.trans (hb.mono h.low.size)⟩
theorem dec_boxes (w : World) : DcStart w ((((w.alloc (.cells #[.int .i64 0, .int .i64 0, .slice none 0 0, .int .u32 0, .int .u32 0, .int .u32 0, .int .u32 0, .int .u32 0, .slice none 0 0] 27)).alloc (.cells #[.int .i64 0, .int .i64 0, .slice none 0 0] 41)).alloc (.cells #[.int .i64 0, .int .i64 0, .slice none 0 0, .int .u32 0, .int .u32 0, .int .u32 0, .int .u32 0, .int .u32 0, .slice none 0 0] 27)).alloc (.cells Tryz.zeroCells109 109)) := by
 have h1 := Box9.new w 27 (.int .i64 0) (.int .i64 0) (.slice none 0 0) (.int .u32 0) (.int .u32 0) (.int .u32 0) (.int .u32 0) (.int .u32 0) (.slice none 0 0)
 have b1 : Below w.heap.size w (w.alloc (.cells #[.int .i64 0, .int .i64 0, .slice none 0 0, .int .u32 0, .int .u32 0, .int .u32 0, .int .u32 0, .int .u32 0, .slice none 0 0] 27)) := (Below.refl _ _).alloc (Nat.le_refl _) _
 have e1 : (w.alloc (.cells #[.int .i64 0, .int .i64 0, .slice none 0 0, .int .u32 0, .int .u32 0, .int .u32 0, .int .u32 0, .int .u32 0, .slice none 0 0] 27)).heap.size = w.heap.size + 1 := by simp
 obtain ⟨w1, hw1⟩ : ∃ w1, w1 = w.alloc (.cells #[.int .i64 0, .int .i64 0, .slice none 0 0, .int .u32 0, .int .u32 0, .int .u32 0, .int .u32 0, .int .u32 0, .slice none 0 0] 27) := ⟨_, rfl⟩
 rw [← hw1] at h1 b1 e1 ⊢
 have h2 := Box3.new w1 41 (.int .i64 0) (.int .i64 0) (.slice none 0 0)
 have b2 : Below w1.heap.size w1 (w1.alloc (.cells #[.int .i64 0, .int .i64 0, .slice none 0 0] 41)) := (Below.refl _ _).alloc (Nat.le_refl _) _
 have e2 : (w1.alloc (.cells #[.int .i64 0, .int .i64 0, .slice none 0 0] 41)).heap.size = w.heap.size + 2 := by simp [e1]
 obtain ⟨w2, hw2⟩ : ∃ w2, w2 = w1.alloc (.cells #[.int .i64 0, .int .i64 0, .slice none 0 0] 41) := ⟨_, rfl⟩
 rw [← hw2] at h2 b2 e2 ⊢
 have h3 := Box9.new w2 27 (.int .i64 0) (.int .i64 0) (.slice none 0 0) (.int .u32 0) (.int .u32 0) (.int .u32 0) (.int .u32 0) (.int .u32 0) (.slice none 0 0)
 have b3 : Below w2.heap.size w2 (w2.alloc (.cells #[.int .i64 0, .int .i64 0, .slice none 0 0, .int .u32 0, .int .u32 0, .int .u32 0, .int .u32 0, .int .u32 0, .slice none 0 0] 27)) := (Below.refl _ _).alloc (Nat.le_refl _) _
 have e3 : (w2.alloc (.cells #[.int .i64 0, .int .i64 0, .slice none 0 0, .int .u32 0, .int .u32 0, .int .u32 0, .int .u32 0, .int .u32 0, .slice none 0 0] 27)).heap.size = w.heap.size + 3 := by simp [e2]
 obtain ⟨w3, hw3⟩ : ∃ w3, w3 = w2.alloc (.cells #[.int .i64 0, .int .i64 0, .slice none 0 0, .int .u32 0, .int .u32 0, .int .u32 0, .int .u32 0, .int .u32 0, .slice none 0 0] 27) := ⟨_, rfl⟩
 rw [← hw3] at h3 b3 e3 ⊢
 have b4 : Below w3.heap.size w3 (w3.alloc (.cells Tryz.zeroCells109 109)) := (Below.refl _ _).alloc (Nat.le_refl _) _
 rw [e1] at h2
 rw [e2] at h3
 refine ⟨((h1.keep b2).keep b3).keep b4, (h2.keep b3).keep b4, h3.keep b4, ?_, by simp [e3], (b1.trans (b2.mono b1.size)).trans ((b3.mono (by omega)).trans (b4.mono (by omega)))⟩
 have := heap_alloc_new w3 (.cells Tryz.zeroCells109 109)
 rw [e3] at this
 rw [this, seen_zero]
theorem dec_mid {W : World} {n0 : Nat} {x y z : Value} (h3 : Box3 W (n0 + 1) 41 x y z) (v0 v1 v2 v3 v4 v5 v6 v7 v8 : Value) : Box3 (nine W n0 v0 v1 v2 v3 v4 v5 v6 v7 v8) (n0 + 1) 41 x y z := ⟨((nine_off W n0 v0 v1 v2 v3 v4 v5 v6 v7 v8).1 (n0 + 1) (by omega)).trans h3.blk⟩
theorem dec_end {w0 W : World} {n0 : Nat} {q0 q1 q2 q3 q4 q5 q6 q7 q8 x y z : Value} (h9 : Box9 W n0 27 q0 q1 q2 q3 q4 q5 q6 q7 q8) (h3 : Box3 W (n0 + 1) 41 x y z) (hb : Below n0 w0 W) (v0 v1 v2 v3 v4 v5 v6 v7 v8 x' y' z' : Value) :
  Box9 (three (nine W n0 v0 v1 v2 v3 v4 v5 v6 v7 v8) (n0 + 1) x' y' z') n0 27 v0 v1 v2 v3 v4 v5 v6 v7 v8 ∧ Box3 (three (nine W n0 v0 v1 v2 v3 v4 v5 v6 v7 v8) (n0 + 1) x' y' z') (n0 + 1) 41 x' y' z' ∧ (∀ k, n0 + 1 < k → (three (nine W n0 v0 v1 v2 v3 v4 v5 v6 v7 v8) (n0 + 1) x' y' z').heap[k]? = W.heap[k]?) ∧ W.heap.size ≤ (three (nine W n0 v0 v1 v2 v3 v4 v5 v6 v7 v8) (n0 + 1) x' y' z').heap.size ∧ Below n0 w0 (three (nine W n0 v0 v1 v2 v3 v4 v5 v6 v7 v8) (n0 + 1) x' y' z') := by
 have a9 : Box9 (nine W n0 v0 v1 v2 v3 v4 v5 v6 v7 v8) n0 27 v0 v1 v2 v3 v4 v5 v6 v7 v8 := ((((((((h9.set0 v0).set1 v1).set2 v2).set3 v3).set4 v4).set5 v5).set6 v6).set7 v7).set8 v8
 have o1 := nine_off W n0 v0 v1 v2 v3 v4 v5 v6 v7 v8
 have o2 := three_off (nine W n0 v0 v1 v2 v3 v4 v5 v6 v7 v8) (n0 + 1) x' y' z'
 exact ⟨⟨(o2.1 n0 (by omega)).trans a9.blk⟩, (dec_mid h3 v0 v1 v2 v3 v4 v5 v6 v7 v8).laid x' y' z', fun k hk => (o2.1 k (by omega)).trans (o1.1 k (by omega)), Nat.le_trans o1.2 o2.2, three_low (nine_low hb n0 (Nat.le_refl _) v0 v1 v2 v3 v4 v5 v6 v7 v8) (n0 + 1) (by omega) x' y' z'⟩
theorem n9z : ∀ u ∈ [Value.int .i64 0, .int .i64 0, .slice none 0 0, .int .u32 0, .int .u32 0, .int .u32 0, .int .u32 0, .int .u32 0, .slice none 0 0], No8 u := n9 (h := 0) (o := 0) (hp := 0) (md := 0) (pr := 0) (ag := 0) (ai := 0)
theorem item_new (W : World) (x y z : Value) : Box3 (W.alloc (.cells #[x, y, z] 90)) W.heap.size 90 x y z ∧ Below W.heap.size W (W.alloc (.cells #[x, y, z] 90)) :=
 ⟨Box3.new W 90 x y z, (Below.refl _ _).alloc (Nat.le_refl _) _⟩
def DecF (b : List Nat) (w : World) (e : Ending) (w' : World) : Prop := ∃ va vn, e = .returned (.tuple #[va, vn]) ∧ Attrs w' va (outA (decodeA b)).1 ∧ Note w' vn (outA (decodeA b)).2 ∧ Below w.heap.size w w'
theorem segs_lower {t : TypeId} {n m : Nat} {W : World} {v : Value} {p : List Piece} (h : OwnSegsF t n n W v p) (hm : m ≤ n) : OwnSegsF t m m W v p := by
 obtain ⟨q, h1, h2, h3, h4⟩ := h
 exact ⟨q, own_base h1 hm, h2, h3, fun x hx b off k c e h0 => Nat.le_trans hm (h4 x hx b off k c e h0)⟩
def DecG (b : List Nat) (w : World) (e : Ending) (w' : World) : Prop := ∃ va vn, e = .returned (.tuple #[va, vn]) ∧ AtF w.heap.size w' va (outA (decodeA b)).1 ∧ Note w' vn (outA (decodeA b)).2 ∧ Below w.heap.size w w'
theorem DecG.decF {b : List Nat} {w w' : World} {e : Ending} (h : DecG b w e w') : DecF b w e w' := by
 obtain ⟨va, vn, h1, h2, h3⟩ := h
 exact ⟨va, vn, h1, h2.attrs, h3⟩
theorem atF_zero (n : Nat) (W : World) : AtF n W (.agg #[.int .i64 0, .int .i64 0, .slice none 0 0, .int .u32 0, .int .u32 0, .int .u32 0, .int .u32 0, .int .u32 0, .slice none 0 0]) zeroA :=
 ⟨zeroA_ok, .slice none 0 0, .slice none 0 0, rfl, nil_segsF _ _ _, U32s.nil W, NewAt.nil _⟩
theorem dec_bad {b : List Nat} {w W : World} {n : No} {sub : Nat} {A : Option Addr} {m c : Nat} (h9 : Box9 W w.heap.size 27 (.int .i64 0) (.int .i64 0) (.slice none 0 0) (.int .u32 0) (.int .u32 0) (.int .u32 0) (.int .u32 0) (.int .u32 0) (.slice none 0 0)) (h3 : Box3 W (w.heap.size + 1) 41 (.int .i64 0) (.int .i64 0) (.slice none 0 0)) (hb : Below w.heap.size w W)
  (hd : decodeA b = .inl n) (hn : Note W (.agg #[.int .i64 3, .int .i64 sub, .slice A m c]) n) :
  DecG b w (.returned (.tuple #[.agg #[.int .i64 0, .int .i64 0, .slice none 0 0, .int .u32 0, .int .u32 0, .int .u32 0, .int .u32 0, .int .u32 0, .slice none 0 0], .agg #[.int .i64 3, .int .i64 sub, .slice A m c]])) (three (nine W w.heap.size (.int .i64 0) (.int .i64 0) (.slice none 0 0) (.int .u32 0) (.int .u32 0) (.int .u32 0) (.int .u32 0) (.int .u32 0) (.slice none 0 0)) (w.heap.size + 1) (.int .i64 3) (.int .i64 sub) (.slice A m c)) := by
 obtain ⟨k1, k2, k3, k4, k5⟩ := dec_end h9 h3 hb (.int .i64 0) (.int .i64 0) (.slice none 0 0) (.int .u32 0) (.int .u32 0) (.int .u32 0) (.int .u32 0) (.int .u32 0) (.slice none 0 0) (.int .i64 3) (.int .i64 sub) (.slice A m c)
 have ho1 := nine_off W w.heap.size (.int .i64 0) (.int .i64 0) (.slice none 0 0) (.int .u32 0) (.int .u32 0) (.int .u32 0) (.int .u32 0) (.int .u32 0) (.slice none 0 0)
 obtain ⟨g1, g2, vd, g3, g4⟩ := hn
 injection g3 with g3
 have g5 : vd = .slice A m c := by
  have := congrArg (fun x : Array Value => x[2]?) g3
  simpa using this.symm
 subst g5
 have m9 : Box9 (nine W w.heap.size (.int .i64 0) (.int .i64 0) (.slice none 0 0) (.int .u32 0) (.int .u32 0) (.int .u32 0) (.int .u32 0) (.int .u32 0) (.slice none 0 0)) w.heap.size 27 (.int .i64 0) (.int .i64 0) (.slice none 0 0) (.int .u32 0) (.int .u32 0) (.int .u32 0) (.int .u32 0) (.int .u32 0) (.slice none 0 0) := ((((((((h9.set0 _).set1 _).set2 _).set3 _).set4 _).set5 _).set6 _).set7 _).set8 _
 have u1 : U8s (nine W w.heap.size (.int .i64 0) (.int .i64 0) (.slice none 0 0) (.int .u32 0) (.int .u32 0) (.int .u32 0) (.int .u32 0) (.int .u32 0) (.slice none 0 0)) (.slice A m c) n.data := u8_apart g4 (h9.no8 n9z) (fun k hk => ?_) ho1.2
 ·have u2 := u8_apart u1 ((dec_mid h3 (.int .i64 0) (.int .i64 0) (.slice none 0 0) (.int .u32 0) (.int .u32 0) (.int .u32 0) (.int .u32 0) (.int .u32 0) (.slice none 0 0)).no8 (no8_i _) (no8_i _) (no8_s _ _ _)) (three_off _ _ _ _ _).1 (three_off _ _ (.int .i64 3) (.int .i64 sub) (.slice A m c)).2
  refine ⟨_, _, rfl, ?_, ?_, k5⟩
  ·rw [hd]; exact atF_zero _ _
  ·rw [hd]; exact ⟨g1, g2, _, congrArg Value.agg g3, u2⟩
 ·have hne : ∀ i : Nat, k ≠ (⟨w.heap.size, i, none⟩ : Addr).block := fun i => hk
  unfold nine
  simp only [Go.RowKit.Below.heap_setCell _ _ _ _ (hne _)]
theorem note_form {W : World} {v : Value} {n : No} (h : Note W v n) : ∃ vd, v = .agg #[.int .i64 n.code, .int .i64 n.sub, vd] ∧ U8s W vd n.data := let ⟨_, _, vd, h3, h4⟩ := h; ⟨vd, h3, h4⟩
theorem note_zero (W : World) : Note W (.agg #[.int .i64 0, .int .i64 0, .slice none 0 0]) noneN := ⟨by decide, by decide, _, rfl, U8s.nil _⟩
theorem note_three (W : World) (s : Nat) (hs : s < 256) : Note W (.agg #[.int .i64 3, .int .i64 s, .slice none 0 0]) ⟨3, s, []⟩ := ⟨show (Lit.int .i64 3).wf = true by decide, by simp [Lit.wf, IntKind.min, IntKind.max, IntKind.signed, IntKind.bits]; omega, _, rfl, U8s.nil _⟩
theorem Fine.off {seen : List Nat} {a : At} (h : Fine seen a) {k : Nat} (hk : k ∉ seen) : a.has / 2 ^ k % 2 = 0 := by
 by_cases h8 : k ≤ 8
 ·exact h.free k h8 hk
 ·have h1 : (2 : Int) ^ k = ((2 ^ k : Nat) : Int) := by simp
  have h2 : 512 ≤ 2 ^ k := Nat.le_trans (by decide : 512 ≤ 2 ^ 9) (Nat.pow_le_pow_right (by omega) (by omega))
  rw [h1, Int.ediv_eq_zero_of_lt h.h0 (by have := h.h5; omega)]
  rfl
theorem sub_bound (f k : Nat) (v : List Nat) : subOf f k v < 256 ∧ subOf f k v ≠ 1 := by
 by_cases hk : k < 1 ∨ 8 < k
 ·unfold subOf
  rw [if_pos hk]
  split <;> exact ⟨by omega, by omega⟩
 ·rw [sub_known hk]
  unfold fillN
  cases pathIs v <;> dsimp only <;> (repeat' split) <;> exact ⟨by omega, by omega⟩
set_option maxRecDepth 100000 in
set_option maxHeartbeats 8000000 in
theorem decode_g (v : Value) (b : List Nat) (w : World) (hv : U8s w v b) (hl : b.length ≤ 100000) (hS : Shp w) :
  Calls Tryz.prog 46 #[v] w (DecG b w) := by
 have D0 := Go.Lib.hid (dec_boxes w)
 have CN := Go.Lib.hid (new_any v b _ (hv.keep ((D0.out.low).mono (Nat.le_refl _))) (by omega))
 have HS := Go.Lib.hid hS
 have HB := Go.Lib.hid (And.intro hv.2 hl)
 clear hv hl hS
 go_enter Tryz.func46, Tryz.ntmps46
 go_wp2_with (go_at_call 40; refine (CN.out).mono ?_; rintro e w1 ⟨B, rfl, hR, hb⟩; have ST0 := Go.Lib.hid (D0.out.start hR hb); clear hR hb)
 obtain ⟨N, hN⟩ : ∃ N, N = w1.heap.size := ⟨_, rfl⟩
 rw [← hN] at ST0
 clear hN D0 CN
 go_loopw [8] (fun _ wx => ∃ (l seen : List Nat) (a : At), Hid (Small l ∧ l.length ≤ b.length ∧ decodeA b = decF seen a l ∧ Fine seen a) ∧ Hid (DcSt w B N seen a ⟨l, false⟩ wx)) (fun _ wx => cellLen wx B)
 case atStart => exact ⟨b, [], zeroA, Go.Lib.hid ⟨HB.out.1, Nat.le_refl _, rfl, fine_zero⟩, ST0⟩
 case round =>
  obtain ⟨l, seen, a, HI, ST⟩ := hrel
  have CL := Go.Lib.hid (left_any _ _ _ _ _ _ wr ST.out.rd)
  dsimp only at CL
  by_cases hne : l = []
  ·subst hne
   have e0 : ¬ ((([] : List Nat).length : Nat) : Int) > 0 := by simp
   obtain ⟨hok, hlt, Ap, np, cp, Ac, nc, cc, b9, hp, hc, hn⟩ := ST.out.box
   have HDC := Go.Lib.hid (show decodeA b = .inr (normA a) from HI.out.2.2.1)
   have CM := Go.Lib.hid (fun (W : World) (h : Below wr.heap.size wr W) => pnormA_any (.agg #[.int .i64 a.has, .int .i64 a.origin, .slice Ap np cp, .int .u32 (a.hop : Nat), .int .u32 (a.med : Nat), .int .u32 (a.pref : Nat), .int .u32 (a.aas : Nat), .int .u32 (a.aid : Nat), .slice Ac nc cc]) a W ⟨hok, _, _, rfl, (hp.keep h).segs, hc.keep h⟩ HI.out.2.2.2.bk HI.out.2.2.2.fit HI.out.2.2.2.cm)
   obtain ⟨c0, c1, c2, c3, c4, c5, c6, c7, c8⟩ := b9.cells
   have H9 := Go.Lib.hid b9
   clear b9 hp hc hn hok
   generalize normA a = q at CM HDC
   go_wp2_with (first
    | (go_at_call 47; refine (CL.out).mono ?_; rintro e x ⟨rfl, hb⟩; have S1 := Go.Lib.hid (And.intro (ST.out.below hb) hb); clear c0 c1 c2 c3 c4 c5 c6 c7 c8; obtain ⟨c0, c1, c2, c3, c4, c5, c6, c7, c8⟩ := (H9.out.keep hb).cells; clear hb)
    | (go_at_call 89; (refine (CM.out _ S1.out.2).mono ?_; rintro e y ⟨_, rfl, ⟨hq, vp, vc, rfl, hP, hC, hN⟩, hb⟩; have S2 := Go.Lib.hid (S1.out.1.below hb); obtain ⟨ap, cp2, rfl⟩ := hP.form; obtain ⟨ac, cc2, rfl, -, -, -, -⟩ := hC.open_; have HQ := Go.Lib.hid (And.intro hq (And.intro hP (And.intro hC (And.intro hN S1.out.1.lts.2.1)))); obtain ⟨q0, q1, q2, q3, q4, q5, q6, q7, q8⟩ := q; dsimp only [acells]; clear hb hq hP hC hN c0 c1 c2 c3 c4 c5 c6 c7 c8; obtain ⟨c0, c1, c2, c3, c4, c5, c6, c7, c8⟩ := S2.out.r9.cells; have f9 := S2.out.r9.free; obtain ⟨d0, d1, d2⟩ := (dec_mid S2.out.n3 (.int .i64 q0) (.int .i64 q1) (.slice ap q2.length cp2) (.int .u32 q3) (.int .u32 q4) (.int .u32 q5) (.int .u32 q6) (.int .u32 q7) (.slice ac q8.length cc2)).cells; have f3 := (dec_mid S2.out.n3 (.int .i64 q0) (.int .i64 q1) (.slice ap q2.length cp2) (.int .u32 q3) (.int .u32 q4) (.int .u32 q5) (.int .u32 q6) (.int .u32 q7) (.slice ac q8.length cc2)).free; unfold nine at d0 d1 d2 f3)))
   obtain ⟨k1, k2, k3, k4, k5⟩ := dec_end S2.out.r9 S2.out.n3 S2.out.low (.int .i64 q0) (.int .i64 q1) (.slice ap q2.length cp2) (.int .u32 q3) (.int .u32 q4) (.int .u32 q5) (.int .u32 q6) (.int .u32 q7) (.slice ac q8.length cc2) (.int .i64 0) (.int .i64 0) (.slice none 0 0)
   have K := Go.Lib.hid (And.intro k3 (And.intro k4 k5))
   obtain ⟨r0, r1, r2, r3, r4, r5, r6, r7, r8⟩ := k1.cells
   obtain ⟨m0, m1, m2⟩ := k2.cells
   clear k1 k2 k3 k4 k5 c0 c1 c2 c3 c4 c5 c6 c7 c8 d0 d1 d2 f3 f9
   unfold three nine at r0 r1 r2 r3 r4 r5 r6 r7 r8 m0 m1 m2
   refine bodyPost_ret (v := .tuple #[.agg #[.int .i64 q0, .int .i64 q1, .slice ap q2.length cp2, .int .u32 q3, .int .u32 q4, .int .u32 q5, .int .u32 q6, .int .u32 q7, .slice ac q8.length cc2], .agg #[.int .i64 0, .int .i64 0, .slice none 0 0]]) (by simp [results, Tryz.results46, go_sem, r0, r1, r2, r3, r4, r5, r6, r7, r8, m0, m1, m2]) rfl ?_
   refine ⟨_, _, rfl, ?_, ?_, K.out.2.2⟩
   ·rw [HDC.out]
    have hz := HQ.out.2.2.2.2
    exact ⟨HQ.out.1, _, _, rfl, segs_lower (segs_off HQ.out.2.1 (fun k hk => K.out.1 k (by omega)) K.out.2.1) (by omega), u32_off HQ.out.2.2.1 HQ.out.2.2.2.1 (fun k hk => K.out.1 k (by omega)) K.out.2.1, NewAt.lower HQ.out.2.2.2.1 (by omega)⟩
   ·rw [HDC.out]
    exact note_zero _
  ·have z1 : ((l.length : Nat) : Int) > 0 := by
    have := List.length_pos_iff.2 hne
    omega
   have hsm := HI.out.1
   cases hit : itemOf l with
   | none =>
    have HDC := Go.Lib.hid (HI.out.2.2.1.trans (decF_none hne hit))
    have CX := Go.Lib.hid (fun (W : World) (h : R W (w.heap.size + 4) N (.pointer (some ⟨B, 0, none⟩)) l false (fun q => q = B)) (hn : N ≤ W.heap.size) => next_any (.pointer (some ⟨B, 0, none⟩)) (w.heap.size + 4) N l (fun q => q = B) W hsm h hn)
    unfold NextF at CX
    have hrb := next_none hit
    generalize nxF l = xf at CX
    generalize nxK l = xk at CX
    generalize nxV l = xv at CX
    generalize nxR l = nr at CX hrb
    obtain ⟨xr, rb⟩ := nr
    dsimp only at CX hrb
    subst hrb
    clear hit hsm
    go_wp2_with (first
     | (go_at_call 47; refine (CL.out).mono ?_; rintro e x0 ⟨rfl, hb⟩; have S1 := Go.Lib.hid (ST.out.below hb); clear hb)
     | (have h := S1.out; go_at_call 86; (refine (CX.out _ h.rd h.box.lt.2).mono ?_; rintro e x1 ⟨A, c, rfl, hU, hR, ho⟩; obtain ⟨i1, i2⟩ := item_new x1 (.int .i64 xf) (.int .i64 xk) (.slice A xv.length c); have S3 := Go.Lib.hid ((h.read (y := ⟨xr, true⟩) hR ho).below i2); have D3 := Go.Lib.hid i1; have U3 := Go.Lib.hid (hU.keep i2); have Z3 := Go.Lib.hid (Nat.lt_of_lt_of_le h.lts.2.2.1 ho.size); clear h hU hR ho S1; obtain ⟨d0, d1, d2⟩ := i1.cells; clear i1 i2))
     | (have h := S3.out; go_at_call 44; (refine (bad_any _ _ _ _ _ _ _ h.rd).mono ?_; rintro e x2 ⟨rfl, hb⟩; have S4 := Go.Lib.hid (h.below hb); have D4 := Go.Lib.hid (D3.out.keep hb); have U4 := Go.Lib.hid (U3.out.keep hb); clear hb h S3 D3 U3 d0 d1 d2; obtain ⟨d0, d1, d2⟩ := D4.out.cells))
     | (go_at_call 87; (refine (notice_none _ _ A _ c 1 _ (.inl rfl)).mono ?_; rintro e x3 ⟨rfl, hb⟩; have S5 := Go.Lib.hid (S4.out.below hb); clear hb S4 d0 d1 d2; obtain ⟨c0, c1, c2, c3, c4, c5, c6, c7, c8⟩ := S5.out.r9.cells; have f9 := S5.out.r9.free; obtain ⟨m0, m1, m2⟩ := (dec_mid S5.out.n3 (.int .i64 0) (.int .i64 0) (.slice none 0 0) (.int .u32 0) (.int .u32 0) (.int .u32 0) (.int .u32 0) (.int .u32 0) (.slice none 0 0)).cells; have f3 := (dec_mid S5.out.n3 (.int .i64 0) (.int .i64 0) (.slice none 0 0) (.int .u32 0) (.int .u32 0) (.int .u32 0) (.int .u32 0) (.int .u32 0) (.slice none 0 0)).free; unfold nine at m0 m1 m2 f3)))
    obtain ⟨k1, k2, -⟩ := dec_end S5.out.r9 S5.out.n3 S5.out.low (.int .i64 0) (.int .i64 0) (.slice none 0 0) (.int .u32 0) (.int .u32 0) (.int .u32 0) (.int .u32 0) (.int .u32 0) (.slice none 0 0) (.int .i64 3) (.int .i64 1) (.slice none 0 0)
    obtain ⟨r0, r1, r2, r3, r4, r5, r6, r7, r8⟩ := k1.cells
    obtain ⟨t0, t1, t2⟩ := k2.cells
    clear k1 k2 c0 c1 c2 c3 c4 c5 c6 c7 c8 m0 m1 m2 f3 f9
    unfold three nine at r0 r1 r2 r3 r4 r5 r6 r7 r8 t0 t1 t2
    refine bodyPost_ret (v := .tuple #[.agg #[.int .i64 0, .int .i64 0, .slice none 0 0, .int .u32 0, .int .u32 0, .int .u32 0, .int .u32 0, .int .u32 0, .slice none 0 0], .agg #[.int .i64 3, .int .i64 1, .slice none 0 0]]) (by simp [results, Tryz.results46, go_sem, r0, r1, r2, r3, r4, r5, r6, r7, r8, t0, t1, t2]) rfl ?_
    exact dec_bad S5.out.r9 S5.out.n3 S5.out.low HDC.out (note_three _ 1 (by decide))
   | some x =>
    obtain ⟨xf, xk, xv, xr⟩ := x
    obtain ⟨hx1, hx2, hx3, hx4⟩ := next_some hit
    obtain ⟨hf1, hk1, hv1, hv2, hv3, hr1, hr2, hr3⟩ := item_facts hsm hit
    have HDF := Go.Lib.hid (HI.out.2.2.1.trans (decF_some hsm hit))
    dsimp only at hx1 hx2 hx3 hx4 hf1 hk1 hv1 hv2 hv3 hr1 hr2 hr3 HDF
    have CX := Go.Lib.hid (fun (W : World) (h : R W (w.heap.size + 4) N (.pointer (some ⟨B, 0, none⟩)) l false (fun q => q = B)) (hn : N ≤ W.heap.size) => next_any (.pointer (some ⟨B, 0, none⟩)) (w.heap.size + 4) N l (fun q => q = B) W hsm h hn)
    unfold NextF at CX
    rw [hx1, hx2, hx3, hx4] at CX
    dsimp only at CX
    have HF := Go.Lib.hid (And.intro hf1 (And.intro hk1 (And.intro hv1 (And.intro hv2 hv3))))
    have HR := Go.Lib.hid (And.intro hr1 (And.intro hr2 hr3))
    have z2 : (0 : Int) ≤ (xk : Int) := by omega
    have z3 : (xk : Int) < 256 := by omega
    have CE := Go.Lib.hid (fun (W : World) (a : At) (x : Rd) (seen : List Nat) (h : DcSt w B N seen a x W) => show W.cell? ⟨w.heap.size + 1 + 1 + 1, xk, none⟩ = some (.bool (decide (xk ∈ seen))) ∧ W.frozen? ⟨w.heap.size + 1 + 1 + 1, xk, none⟩ = false from h.seen_cell HF.out.2.1)
    clear hit hsm hx1 hx2 hx3 hx4 hf1 hk1 hv1 hv2 hv3 hr1 hr2 hr3
    by_cases hse : xk ∈ seen
    ·have HDC := Go.Lib.hid (HDF.out.trans (if_pos hse))
     have hd : decide (xk ∈ seen) = true := decide_eq_true hse
     clear HDF hse
     go_wp2_with (first
      | (go_at_call 47; refine (CL.out).mono ?_; rintro e x0 ⟨rfl, hb⟩; have S1 := Go.Lib.hid (ST.out.below hb); clear hb)
      | (have h := S1.out; go_at_call 86; (refine (CX.out _ h.rd h.box.lt.2).mono ?_; rintro e x1 ⟨A, c, rfl, hU, hR, ho⟩; obtain ⟨i1, i2⟩ := item_new x1 (.int .i64 xf) (.int .i64 xk) (.slice A xv.length c); have S3 := Go.Lib.hid ((h.read (y := ⟨xr, false⟩) hR ho).below i2); have D3 := Go.Lib.hid i1; have U3 := Go.Lib.hid (hU.keep i2); have Z3 := Go.Lib.hid (Nat.lt_of_lt_of_le h.lts.2.2.1 ho.size); clear h hU hR ho S1; obtain ⟨d0, d1, d2⟩ := i1.cells; clear i1 i2))
      | (have h := S3.out; go_at_call 44; (refine (bad_any _ _ _ _ _ _ _ h.rd).mono ?_; rintro e x2 ⟨rfl, hb⟩; have S4 := Go.Lib.hid (h.below hb); have D4 := Go.Lib.hid (D3.out.keep hb); have U4 := Go.Lib.hid (U3.out.keep hb); clear hb h S3 D3 U3 d0 d1 d2; obtain ⟨d0, d1, d2⟩ := D4.out.cells; obtain ⟨s0, s1⟩ := CE.out _ _ _ _ S4.out; rw [hd] at s0))
      | (go_at_call 87; (refine (notice_none _ _ A _ c 1 _ (.inl rfl)).mono ?_; rintro e x3 ⟨rfl, hb⟩; have S5 := Go.Lib.hid (S4.out.below hb); clear hb S4 d0 d1 d2; obtain ⟨c0, c1, c2, c3, c4, c5, c6, c7, c8⟩ := S5.out.r9.cells; have f9 := S5.out.r9.free; obtain ⟨m0, m1, m2⟩ := (dec_mid S5.out.n3 (.int .i64 0) (.int .i64 0) (.slice none 0 0) (.int .u32 0) (.int .u32 0) (.int .u32 0) (.int .u32 0) (.int .u32 0) (.slice none 0 0)).cells; have f3 := (dec_mid S5.out.n3 (.int .i64 0) (.int .i64 0) (.slice none 0 0) (.int .u32 0) (.int .u32 0) (.int .u32 0) (.int .u32 0) (.int .u32 0) (.slice none 0 0)).free; unfold nine at m0 m1 m2 f3)))
     obtain ⟨k1, k2, -⟩ := dec_end S5.out.r9 S5.out.n3 S5.out.low (.int .i64 0) (.int .i64 0) (.slice none 0 0) (.int .u32 0) (.int .u32 0) (.int .u32 0) (.int .u32 0) (.int .u32 0) (.slice none 0 0) (.int .i64 3) (.int .i64 1) (.slice none 0 0)
     obtain ⟨r0, r1, r2, r3, r4, r5, r6, r7, r8⟩ := k1.cells
     obtain ⟨t0, t1, t2⟩ := k2.cells
     clear k1 k2 c0 c1 c2 c3 c4 c5 c6 c7 c8 m0 m1 m2 f3 f9
     unfold three nine at r0 r1 r2 r3 r4 r5 r6 r7 r8 t0 t1 t2
     refine bodyPost_ret (v := .tuple #[.agg #[.int .i64 0, .int .i64 0, .slice none 0 0, .int .u32 0, .int .u32 0, .int .u32 0, .int .u32 0, .int .u32 0, .slice none 0 0], .agg #[.int .i64 3, .int .i64 1, .slice none 0 0]]) (by simp [results, Tryz.results46, go_sem, r0, r1, r2, r3, r4, r5, r6, r7, r8, t0, t1, t2]) rfl ?_
     exact dec_bad S5.out.r9 S5.out.n3 S5.out.low HDC.out (note_three _ 1 (by decide))
    ·have hd : decide (xk ∈ seen) = false := decide_eq_false hse
     have HD2 := Go.Lib.hid (HDF.out.trans (if_neg hse))
     have CRD := Go.Lib.hid (fun (A : Option Addr) (c : Nat) (W : World) (seen2 : List Nat) (h : DcSt w B N seen2 a ⟨xr, false⟩ W) (hu : U8s W (.slice A xv.length c) xv) => show Calls Tryz.prog 88 #[.agg #[.int .i64 xf, .int .i64 xk, .slice A xv.length c], .pointer (some ⟨w.heap.size + 1 + 1, 0, none⟩)] W (ReadF (w.heap.size + 2) N a xf xk xv W) from read_any xf xk A c xv W (w.heap.size + 2) N a h.box hu (HS.out.keep h.low) HF.out.1 HF.out.2.2.1 HI.out.2.2.2.h0 HI.out.2.2.2.h5 (HI.out.2.2.2.off hse))
     unfold ReadF at CRD
     have HFL := Go.Lib.hid (fun (h : subOf xf xk xv = 0) => HI.out.2.2.2.lay HF.out.2.2.2.2 HF.out.2.2.1 hse h)
     clear HDF
     by_cases hs0 : subOf xf xk xv = 0
     ·have HDC := Go.Lib.hid (HD2.out.trans (if_pos hs0))
      have HFN := Go.Lib.hid (HFL.out hs0)
      rw [hs0] at CRD
      clear hs0 HD2 HFL hse
      go_wp2_with (first
       | (go_at_call 47; refine (CL.out).mono ?_; rintro e x0 ⟨rfl, hb⟩; have S1 := Go.Lib.hid (ST.out.below hb); clear hb)
       | (have h := S1.out; go_at_call 86; (refine (CX.out _ h.rd h.box.lt.2).mono ?_; rintro e x1 ⟨A, c, rfl, hU, hR, ho⟩; obtain ⟨i1, i2⟩ := item_new x1 (.int .i64 xf) (.int .i64 xk) (.slice A xv.length c); have S3 := Go.Lib.hid ((h.read (y := ⟨xr, false⟩) hR ho).below i2); have D3 := Go.Lib.hid i1; have U3 := Go.Lib.hid (hU.keep i2); have Z3 := Go.Lib.hid (Nat.lt_of_lt_of_le h.lts.2.2.1 ho.size); clear h hU hR ho S1; obtain ⟨d0, d1, d2⟩ := i1.cells; clear i1 i2))
       | (have h := S3.out; go_at_call 44; (refine (bad_any _ _ _ _ _ _ _ h.rd).mono ?_; rintro e x2 ⟨rfl, hb⟩; have S4 := Go.Lib.hid (h.below hb); have D4 := Go.Lib.hid (D3.out.keep hb); have U4 := Go.Lib.hid (U3.out.keep hb); clear hb h S3 D3 U3 d0 d1 d2; obtain ⟨d0, d1, d2⟩ := D4.out.cells; obtain ⟨s0, s1⟩ := CE.out _ _ _ _ S4.out; rw [hd] at s0; have S5 := Go.Lib.hid (show DcSt w B N (xk :: seen) a ⟨xr, false⟩ (x2.setCell ⟨w.heap.size + 1 + 1 + 1, xk, none⟩ (.bool true)) from S4.out.mark HF.out.2.1); have D5 := Go.Lib.hid (D4.out.far (i := xk) (C := w.heap.size + 1 + 1 + 1) (by have := Z3.out; omega) (.bool true)); have U5 := Go.Lib.hid (u8_only U4.out (seen_no8 S4.out.sn) (Only.set (F := fun q => q = w.heap.size + 3) (b := w.heap.size + 3) (i := xk) (Only.refl _ _) rfl (.bool true))); obtain ⟨e0, e1, e2⟩ := D5.out.cells))
       | (have h := S5.out; go_at_call 88; (refine (CRD.out A c _ _ h U5.out).mono ?_; rintro e x3 ⟨rfl, ho, hg⟩; have S6 := Go.Lib.hid (h.fill ho (hg (by first | rfl | trivial))); clear h ho hg S5 S4 D5 D4 U5 U4 d0 d1 d2 e0 e1 e2 s0 s1)))
      go_roundw
      case rel => exact ⟨xr, xk :: seen, layA a xk xv, Go.Lib.hid ⟨HR.out.1, by have := HR.out.2.1; have := HI.out.2.1; omega, HDC.out, HFN.out⟩, S6⟩
      case measure =>
       rw [cellLen_is S6.out.rd, cellLen_is ST.out.rd]
       have := HR.out.2.1
       dsimp only
       omega
     ·have HDC := Go.Lib.hid (HD2.out.trans (if_neg hs0))
      obtain ⟨hsb, hs1⟩ := sub_bound xf xk xv
      clear HD2 HFL hse
      generalize subOf xf xk xv = s at CRD HDC hs0 hsb hs1
      by_cases h11 : s = 11
      ·subst h11
       have HDC := Go.Lib.hid (show decodeA b = .inl ⟨3, (11 : Nat), []⟩ from HDC.out)
       clear hs0 hsb hs1
       go_wp2_with (first
        | (go_at_call 47; refine (CL.out).mono ?_; rintro e x0 ⟨rfl, hb⟩; have S1 := Go.Lib.hid (ST.out.below hb); clear hb)
        | (have h := S1.out; go_at_call 86; (refine (CX.out _ h.rd h.box.lt.2).mono ?_; rintro e x1 ⟨A, c, rfl, hU, hR, ho⟩; obtain ⟨i1, i2⟩ := item_new x1 (.int .i64 xf) (.int .i64 xk) (.slice A xv.length c); have S3 := Go.Lib.hid ((h.read (y := ⟨xr, false⟩) hR ho).below i2); have D3 := Go.Lib.hid i1; have U3 := Go.Lib.hid (hU.keep i2); have Z3 := Go.Lib.hid (Nat.lt_of_lt_of_le h.lts.2.2.1 ho.size); clear h hU hR ho S1; obtain ⟨d0, d1, d2⟩ := i1.cells; clear i1 i2))
        | (have h := S3.out; go_at_call 44; (refine (bad_any _ _ _ _ _ _ _ h.rd).mono ?_; rintro e x2 ⟨rfl, hb⟩; have S4 := Go.Lib.hid (h.below hb); have D4 := Go.Lib.hid (D3.out.keep hb); have U4 := Go.Lib.hid (U3.out.keep hb); clear hb h S3 D3 U3 d0 d1 d2; obtain ⟨d0, d1, d2⟩ := D4.out.cells; obtain ⟨s0, s1⟩ := CE.out _ _ _ _ S4.out; rw [hd] at s0; have S5 := Go.Lib.hid (show DcSt w B N (xk :: seen) a ⟨xr, false⟩ (x2.setCell ⟨w.heap.size + 1 + 1 + 1, xk, none⟩ (.bool true)) from S4.out.mark HF.out.2.1); have D5 := Go.Lib.hid (D4.out.far (i := xk) (C := w.heap.size + 1 + 1 + 1) (by have := Z3.out; omega) (.bool true)); have U5 := Go.Lib.hid (u8_only U4.out (seen_no8 S4.out.sn) (Only.set (F := fun q => q = w.heap.size + 3) (b := w.heap.size + 3) (i := xk) (Only.refl _ _) rfl (.bool true))); obtain ⟨e0, e1, e2⟩ := D5.out.cells))
        | (have h := S5.out; go_at_call 88; (refine (CRD.out A c _ _ h U5.out).mono ?_; rintro e x3 ⟨rfl, ho, -⟩; have L6 := Go.Lib.hid (h.lost ho); have D6 := Go.Lib.hid (D5.out.below (fun k e => by subst e; exact ho.block _ D5.out.lt (by have := Z3.out; omega))); obtain ⟨-, -, Ap, np, cp, Ac, nc, cc, b9, -, -, -⟩ := h.box; have U6 := Go.Lib.hid (u8_only U5.out (b9.no8 n9) ho); clear h ho b9 S5 S4 D5 D4 U5 U4 d0 d1 d2 e0 e1 e2 s0 s1; obtain ⟨d0, d1, d2⟩ := D6.out.cells))
        | (go_at_call 87; (refine (notice_none _ _ A _ c 11 _ (.inr rfl)).mono ?_; rintro e x4 ⟨rfl, hb⟩; have L7 := Go.Lib.hid (And.intro (L6.out.1.keep hb) (And.intro (L6.out.2.1.keep hb) (L6.out.2.2.trans (hb.mono L6.out.2.2.size)))); clear hb d0 d1 d2; obtain ⟨c0, c1, c2, c3, c4, c5, c6, c7, c8⟩ := L7.out.1.cells; have f9 := L7.out.1.free; obtain ⟨m0, m1, m2⟩ := (dec_mid L7.out.2.1 (.int .i64 0) (.int .i64 0) (.slice none 0 0) (.int .u32 0) (.int .u32 0) (.int .u32 0) (.int .u32 0) (.int .u32 0) (.slice none 0 0)).cells; have f3 := (dec_mid L7.out.2.1 (.int .i64 0) (.int .i64 0) (.slice none 0 0) (.int .u32 0) (.int .u32 0) (.int .u32 0) (.int .u32 0) (.int .u32 0) (.slice none 0 0)).free; unfold nine at m0 m1 m2 f3)))
       obtain ⟨k1, k2, -⟩ := dec_end L7.out.1 L7.out.2.1 L7.out.2.2 (.int .i64 0) (.int .i64 0) (.slice none 0 0) (.int .u32 0) (.int .u32 0) (.int .u32 0) (.int .u32 0) (.int .u32 0) (.slice none 0 0) (.int .i64 3) (.int .i64 11) (.slice none 0 0)
       obtain ⟨r0, r1, r2, r3, r4, r5, r6, r7, r8⟩ := k1.cells
       obtain ⟨t0, t1, t2⟩ := k2.cells
       clear k1 k2 c0 c1 c2 c3 c4 c5 c6 c7 c8 m0 m1 m2 f3 f9
       unfold three nine at r0 r1 r2 r3 r4 r5 r6 r7 r8 t0 t1 t2
       refine bodyPost_ret (v := .tuple #[.agg #[.int .i64 0, .int .i64 0, .slice none 0 0, .int .u32 0, .int .u32 0, .int .u32 0, .int .u32 0, .int .u32 0, .slice none 0 0], .agg #[.int .i64 3, .int .i64 11, .slice none 0 0]]) (by simp [results, Tryz.results46, go_sem, r0, r1, r2, r3, r4, r5, r6, r7, r8, t0, t1, t2]) rfl ?_
       exact dec_bad L7.out.1 L7.out.2.1 L7.out.2.2 HDC.out (note_three _ 11 (by decide))
      ·have y1 : ((s : Int) != 0) = true := by simp; omega
       have HDC := Go.Lib.hid (show decodeA b = .inl ⟨3, s, itemB xf xk xv⟩ from HDC.out.trans (by unfold badN; rw [if_neg h11]))
       have CND := Go.Lib.hid (fun (A : Option Addr) (c : Nat) (W : World) (hu : U8s W (.slice A xv.length c) xv) => notice_data xf xk A xv c s W hu HF.out.1 HF.out.2.1 HF.out.2.2.1 HF.out.2.2.2.1 hs1 h11 hsb)
       generalize itemB xf xk xv = M at HDC CND
       clear hs0 hsb hs1 h11
       go_wp2_with (first
        | (go_at_call 47; refine (CL.out).mono ?_; rintro e x0 ⟨rfl, hb⟩; have S1 := Go.Lib.hid (ST.out.below hb); clear hb)
        | (have h := S1.out; go_at_call 86; (refine (CX.out _ h.rd h.box.lt.2).mono ?_; rintro e x1 ⟨A, c, rfl, hU, hR, ho⟩; obtain ⟨i1, i2⟩ := item_new x1 (.int .i64 xf) (.int .i64 xk) (.slice A xv.length c); have S3 := Go.Lib.hid ((h.read (y := ⟨xr, false⟩) hR ho).below i2); have D3 := Go.Lib.hid i1; have U3 := Go.Lib.hid (hU.keep i2); have Z3 := Go.Lib.hid (Nat.lt_of_lt_of_le h.lts.2.2.1 ho.size); clear h hU hR ho S1; obtain ⟨d0, d1, d2⟩ := i1.cells; clear i1 i2))
        | (have h := S3.out; go_at_call 44; (refine (bad_any _ _ _ _ _ _ _ h.rd).mono ?_; rintro e x2 ⟨rfl, hb⟩; have S4 := Go.Lib.hid (h.below hb); have D4 := Go.Lib.hid (D3.out.keep hb); have U4 := Go.Lib.hid (U3.out.keep hb); clear hb h S3 D3 U3 d0 d1 d2; obtain ⟨d0, d1, d2⟩ := D4.out.cells; obtain ⟨s0, s1⟩ := CE.out _ _ _ _ S4.out; rw [hd] at s0; have S5 := Go.Lib.hid (show DcSt w B N (xk :: seen) a ⟨xr, false⟩ (x2.setCell ⟨w.heap.size + 1 + 1 + 1, xk, none⟩ (.bool true)) from S4.out.mark HF.out.2.1); have D5 := Go.Lib.hid (D4.out.far (i := xk) (C := w.heap.size + 1 + 1 + 1) (by have := Z3.out; omega) (.bool true)); have U5 := Go.Lib.hid (u8_only U4.out (seen_no8 S4.out.sn) (Only.set (F := fun q => q = w.heap.size + 3) (b := w.heap.size + 3) (i := xk) (Only.refl _ _) rfl (.bool true))); obtain ⟨e0, e1, e2⟩ := D5.out.cells))
        | (have h := S5.out; go_at_call 88; (refine (CRD.out A c _ _ h U5.out).mono ?_; rintro e x3 ⟨rfl, ho, -⟩; have L6 := Go.Lib.hid (h.lost ho); have D6 := Go.Lib.hid (D5.out.below (fun k e => by subst e; exact ho.block _ D5.out.lt (by have := Z3.out; omega))); obtain ⟨-, -, Ap, np, cp, Ac, nc, cc, b9, -, -, -⟩ := h.box; have U6 := Go.Lib.hid (u8_only U5.out (b9.no8 n9) ho); clear h ho b9 S5 S4 D5 D4 U5 U4 d0 d1 d2 e0 e1 e2 s0 s1; obtain ⟨d0, d1, d2⟩ := D6.out.cells))
        | (go_at_call 87; (refine (CND.out A c _ U6.out).mono ?_; rintro e x4 ⟨v4, rfl, hno, hb⟩; obtain ⟨vd, rfl, hnv⟩ := note_form hno; obtain ⟨Av, cv, rfl, -, -⟩ := hnv.form; have NO := Go.Lib.hid hno; have L7 := Go.Lib.hid (And.intro (L6.out.1.keep hb) (And.intro (L6.out.2.1.keep hb) (L6.out.2.2.trans (hb.mono L6.out.2.2.size)))); clear hb hno hnv d0 d1 d2; obtain ⟨c0, c1, c2, c3, c4, c5, c6, c7, c8⟩ := L7.out.1.cells; have f9 := L7.out.1.free; obtain ⟨m0, m1, m2⟩ := (dec_mid L7.out.2.1 (.int .i64 0) (.int .i64 0) (.slice none 0 0) (.int .u32 0) (.int .u32 0) (.int .u32 0) (.int .u32 0) (.int .u32 0) (.slice none 0 0)).cells; have f3 := (dec_mid L7.out.2.1 (.int .i64 0) (.int .i64 0) (.slice none 0 0) (.int .u32 0) (.int .u32 0) (.int .u32 0) (.int .u32 0) (.int .u32 0) (.slice none 0 0)).free; unfold nine at m0 m1 m2 f3)))
       obtain ⟨k1, k2, -⟩ := dec_end L7.out.1 L7.out.2.1 L7.out.2.2 (.int .i64 0) (.int .i64 0) (.slice none 0 0) (.int .u32 0) (.int .u32 0) (.int .u32 0) (.int .u32 0) (.int .u32 0) (.slice none 0 0) (.int .i64 3) (.int .i64 s) (.slice Av M.length cv)
       obtain ⟨r0, r1, r2, r3, r4, r5, r6, r7, r8⟩ := k1.cells
       obtain ⟨t0, t1, t2⟩ := k2.cells
       clear k1 k2 c0 c1 c2 c3 c4 c5 c6 c7 c8 m0 m1 m2 f3 f9
       unfold three nine at r0 r1 r2 r3 r4 r5 r6 r7 r8 t0 t1 t2
       refine bodyPost_ret (v := .tuple #[.agg #[.int .i64 0, .int .i64 0, .slice none 0 0, .int .u32 0, .int .u32 0, .int .u32 0, .int .u32 0, .int .u32 0, .slice none 0 0], .agg #[.int .i64 3, .int .i64 s, .slice Av M.length cv]]) (by simp [results, Tryz.results46, go_sem, r0, r1, r2, r3, r4, r5, r6, r7, r8, t0, t1, t2]) rfl ?_
       exact dec_bad L7.out.1 L7.out.2.1 L7.out.2.2 HDC.out NO.out
end Go.Proofs.YtlhdjdnflpilbaaGreatDoor.Att
namespace Go.Proofs.YtlhdjdnflpilbaaGreatDoor.Att
open Segm Rise Oct
theorem drop_front {l r : List Nat} {n m : Nat} (h : l.length = m) : (l ++ r).drop (m + n) = r.drop n := by
 subst h
 rw [List.drop_append, List.drop_of_length_le (by omega), List.nil_append]
 congr 1
 omega
theorem take_front {l r : List Nat} {m : Nat} (h : l.length = m) : (l ++ r).take m = l := by
 subst h
 exact List.take_left
theorem quadsN_fours : ∀ (l r : List Nat), (∀ n ∈ l, n < 4294967296) → quadsN (fours l ++ r) l.length = l
 | [], r, _ => rfl
 | n :: l, r, h => by
  have ih := quadsN_fours l r (fun x hx => h x (by simp [hx]))
  unfold quadsN at ih ⊢
  rw [List.length_cons, List.range_succ_eq_map, List.map_cons, List.map_map, fours_cons, List.append_assoc]
  have e0 : val (((big n 4 ++ (fours l ++ r)).drop (4 * 0)).take 4) = n := by
   rw [Nat.mul_zero, List.drop_zero, take_front (big_len n 4)]
   exact val_big4 (h n (by simp))
  rw [e0]
  congr 1
theorem quads_fours (l : List Nat) (h : ∀ n ∈ l, n < 4294967296) : quads (fours l) = l := by
 unfold quads
 have e := quadsN_fours l [] h
 rw [List.append_nil] at e
 rw [fours_len, Nat.mul_div_cancel_left _ (by decide)]
 exact e
theorem pathIs_pathB : ∀ (p : List Piece), (∀ s ∈ p, ((s.1 = 1 ∨ s.1 = 2) ∧ 1 ≤ s.2.length ∧ s.2.length ≤ 255) ∧ ∀ n ∈ s.2, n < 4294967296) → pathIs (pathB p) = some p
 | [], _ => rfl
 | (k, l) :: p, h => by
  obtain ⟨⟨hk, h1, h2⟩, hn⟩ := h (k, l) (by simp)
  have ih := pathIs_pathB p (fun s hs => h s (by simp [hs]))
  dsimp only at hk h1 h2 hn
  have e1 : ((lo8 k : Nat) : Int) = k := by unfold lo8; omega
  have e2 : lo8 (l.length : Int) = l.length := by unfold lo8; omega
  have e3 : lo8 k = 1 ∨ lo8 k = 2 := by omega
  rw [pathB_cons]
  show pathIs (lo8 k :: lo8 (l.length : Int) :: (fours l ++ pathB p)) = _
  rw [pathIs_step, e2, if_pos ⟨e3, by omega, by rw [List.length_append, fours_len]; omega⟩, quadsN_fours l _ hn, e1]
  have e4 : (fours l ++ pathB p).drop (4 * l.length) = pathB p := by rw [← fours_len, List.drop_left]
  rw [e4, ih]
  rfl
theorem itemB_back {f k : Nat} {v r : List Nat} (h : v.length ≤ 65535) : itemOf (itemB f k v ++ r) = some ⟨f, k, v, r⟩ := by
 unfold itemB
 by_cases hf : f / 16 % 2 = 1
 ·rw [if_pos hf, big2]
  show itemOf (f :: k :: (v.length / 256 % 256) :: (v.length % 256) :: (v ++ r)) = _
  have e : v.length / 256 % 256 * 256 + v.length % 256 = v.length := by omega
  unfold itemOf
  dsimp only
  rw [if_pos hf, e, if_pos (by simp), List.take_left, List.drop_left]
 ·rw [if_neg hf]
  show itemOf (f :: k :: v.length :: (v ++ r)) = _
  unfold itemOf
  dsimp only
  rw [if_neg hf, if_pos (by simp), List.take_left, List.drop_left]
def partA (a : At) (j : Nat) : At := ⟨(hasUpto a.has j : Nat), if 1 ≤ j ∧ hasB a.has 1 = true then a.origin else 0, if 2 ≤ j ∧ hasB a.has 2 = true then a.path else [], if 3 ≤ j ∧ hasB a.has 3 = true then a.hop else 0, if 4 ≤ j ∧ hasB a.has 4 = true then a.med else 0, if 5 ≤ j ∧ hasB a.has 5 = true then a.pref else 0,
 if 7 ≤ j ∧ hasB a.has 7 = true then a.aas else 0, if 7 ≤ j ∧ hasB a.has 7 = true then a.aid else 0, if 8 ≤ j ∧ hasB a.has 8 = true then a.comms else []⟩
structure GoodR (a : At) : Prop where
 good : goodA a = true
 path : ∀ s ∈ a.path, ∀ n ∈ s.2, n < 4294967296
 comms : ∀ n ∈ a.comms, n < 4294967296
 ok : a.ok
theorem GoodR.parts {a : At} (h : GoodR a) : normA a = a ∧ 0 ≤ a.origin ∧ a.origin ≤ 2 ∧ goodP a.path = true ∧ lens a.path ≤ 2000 ∧ (hasB a.has 3 = true → hopB a.hop = true) ∧ a.comms.length ≤ 255 := by
 have hg := h.good
 unfold goodA waysP at hg
 simp only [Bool.and_eq_true, decide_eq_true_eq, sameA_iff, Bool.or_eq_true, Bool.not_eq_true'] at hg
 obtain ⟨⟨⟨⟨⟨h1, h2⟩, h3⟩, h4, h5⟩, h6⟩, h7⟩ := hg
 exact ⟨h1, h2, h3, h4, h5, fun hh => h6.elim (fun x => by rw [hh] at x; cases x) id, h7⟩
theorem GoodR.pathIs {a : At} (h : GoodR a) : pathIs (pathB a.path) = some a.path :=
 pathIs_pathB _ fun s hs => ⟨good_piece h.parts.2.2.2.1 hs, h.path s hs⟩
theorem part_eight {a : At} (h : normA a = a) : partA a 8 = a := by
 have e0 := congrArg At.has h
 have e1 := congrArg At.origin h
 have e2 := congrArg At.path h
 have e3 := congrArg At.hop h
 have e4 := congrArg At.med h
 have e5 := congrArg At.pref h
 have e6 := congrArg At.aas h
 have e7 := congrArg At.aid h
 have e8 := congrArg At.comms h
 obtain ⟨a0, a1, a2, a3, a4, a5, a6, a7, a8⟩ := a
 simp only [normA] at e0 e1 e2 e3 e4 e5 e6 e7 e8
 unfold partA
 simp only [At.mk.injEq]
 refine ⟨e0, ?_, ?_, ?_, ?_, ?_, ?_, ?_, ?_⟩
 ·rw [← e1]; cases hasB a0 1 <;> simp
 ·cases hb : hasB a0 2
  ·rw [hb] at e2; rw [← e2]; simp
  ·simp
 ·rw [← e3]; cases hasB a0 3 <;> simp
 ·rw [← e4]; cases hasB a0 4 <;> simp
 ·rw [← e5]; cases hasB a0 5 <;> simp
 ·rw [← e6]; cases hasB a0 7 <;> simp
 ·rw [← e7]; cases hasB a0 7 <;> simp
 ·cases hb : hasB a0 8
  ·rw [hb] at e8; rw [← e8]; simp
  ·simp
theorem part_no {a : At} {k : Nat} (h1 : 1 ≤ k) (h8 : k ≤ 8) (hb : hasB a.has (k : Int) = false) : partA a k = partA a (k - 1) := by
 have hk : k = 1 ∨ k = 2 ∨ k = 3 ∨ k = 4 ∨ k = 5 ∨ k = 6 ∨ k = 7 ∨ k = 8 := by omega
 rcases hk with rfl | rfl | rfl | rfl | rfl | rfl | rfl | rfl
 ·change hasB a.has 1 = false at hb; simp [partA, hasUpto, hb]
 ·change hasB a.has 2 = false at hb; simp [partA, hasUpto, hb]
 ·change hasB a.has 3 = false at hb; simp [partA, hasUpto, hb]
 ·change hasB a.has 4 = false at hb; simp [partA, hasUpto, hb]
 ·change hasB a.has 5 = false at hb; simp [partA, hasUpto, hb]
 ·change hasB a.has 6 = false at hb; simp [partA, hasUpto, hb]
 ·change hasB a.has 7 = false at hb; simp [partA, hasUpto, hb]
 ·change hasB a.has 8 = false at hb; simp [partA, hasUpto, hb]
theorem part_yes {a : At} (h : GoodR a) {k : Nat} (h1 : 1 ≤ k) (h8 : k ≤ 8) (hb : hasB a.has (k : Int) = true) : layA (partA a (k - 1)) k (valB a k) = partA a k := by
 obtain ⟨-, g1, g2, -⟩ := h.parts
 obtain ⟨-, -, o3, o4, o5, o6, o7⟩ := h.ok
 have hk : k = 1 ∨ k = 2 ∨ k = 3 ∨ k = 4 ∨ k = 5 ∨ k = 6 ∨ k = 7 ∨ k = 8 := by omega
 have v1 : ((val [lo8 a.origin] : Nat) : Int) = a.origin := by
  have : lo8 a.origin = a.origin.toNat := by unfold lo8; omega
  rw [this]
  simp [val]; omega
 have v2 := h.pathIs
 have v3 := val_big4 o3
 have v4 := val_big4 o4
 have v5 := val_big4 o5
 have v6 : val ((big a.aas 4 ++ big a.aid 4).take 4) = a.aas := by
  rw [take_front (big_len a.aas 4)]; exact val_big4 o6
 have v7 : val ((big a.aas 4 ++ big a.aid 4).drop 4) = a.aid := by
  have e : (big a.aas 4 ++ big a.aid 4).drop 4 = big a.aid 4 := by rw [show 4 = 4 + 0 from rfl, drop_front (big_len a.aas 4), List.drop_zero]
  rw [e]; exact val_big4 o7
 have v8 := quads_fours a.comms h.comms
 rcases hk with rfl | rfl | rfl | rfl | rfl | rfl | rfl | rfl
 ·change hasB a.has 1 = true at hb; simp [partA, layA, valB, hasUpto, hb, v1]
 ·change hasB a.has 2 = true at hb; simp [partA, layA, valB, hasUpto, hb, v2]
 ·change hasB a.has 3 = true at hb; simp [partA, layA, valB, hasUpto, hb, v3]
 ·change hasB a.has 4 = true at hb; simp [partA, layA, valB, hasUpto, hb, v4]
 ·change hasB a.has 5 = true at hb; simp [partA, layA, valB, hasUpto, hb, v5]
 ·change hasB a.has 6 = true at hb; simp [partA, layA, hasUpto, hb]
 ·change hasB a.has 7 = true at hb; simp [partA, layA, valB, hasUpto, hb, v6, v7]
 ·change hasB a.has 8 = true at hb; simp [partA, layA, valB, hasUpto, hb, v8]
theorem sub_zero {a : At} (h : GoodR a) {k : Nat} (h1 : 1 ≤ k) (h8 : k ≤ 8) (hb : hasB a.has (k : Int) = true) : subOf (longF (flagN k) (valB a k).length) k (valB a k) = 0 := by
 obtain ⟨-, g1, g2, g3, g4, g5, g6⟩ := h.parts
 obtain ⟨-, -, o3, -⟩ := h.ok
 have hO : ownF (longF (flagN k) (valB a k).length) k = flagN k := by
  generalize (valB a k).length = n
  have hk : k = 1 ∨ k = 2 ∨ k = 3 ∨ k = 4 ∨ k = 5 ∨ k = 6 ∨ k = 7 ∨ k = 8 := by omega
  unfold longF
  by_cases hn : 255 < n
  ·rw [if_pos hn]
   rcases hk with rfl | rfl | rfl | rfl | rfl | rfl | rfl | rfl <;> rfl
  ·rw [if_neg hn]
   rcases hk with rfl | rfl | rfl | rfl | rfl | rfl | rfl | rfl <;> rfl
 have hL : longB k (valB a k).length = true := by
  have hk : k = 1 ∨ k = 2 ∨ k = 3 ∨ k = 4 ∨ k = 5 ∨ k = 6 ∨ k = 7 ∨ k = 8 := by omega
  have e8 : (valB a 8).length = 4 * a.comms.length := by show (fours a.comms).length = _; exact fours_len _
  rcases hk with rfl | rfl | rfl | rfl | rfl | rfl | rfl | rfl
  ·rfl
  ·rfl
  ·show longB 3 (big a.hop 4).length = true; rw [big_len]; rfl
  ·show longB 4 (big a.med 4).length = true; rw [big_len]; rfl
  ·show longB 5 (big a.pref 4).length = true; rw [big_len]; rfl
  ·rfl
  ·show longB 7 (big a.aas 4 ++ big a.aid 4).length = true; rw [List.length_append, big_len, big_len]; rfl
  ·rw [e8]
   unfold longB
   rw [if_pos rfl, decide_eq_true (by omega), decide_eq_true (by omega)]; rfl
 unfold subOf
 rw [if_neg (by omega), if_neg (fun hne => hne hO), if_neg (by rw [hL]; decide)]
 by_cases k1 : k = 1
 ·subst k1
  rw [if_pos rfl, if_neg]
  show ¬ 2 < val [lo8 a.origin]
  have e : lo8 a.origin = a.origin.toNat := by unfold lo8; omega
  rw [e]
  simp [val]; omega
 rw [if_neg k1]
 by_cases k2 : k = 2
 ·subst k2
  rw [if_pos rfl, show valB a 2 = pathB a.path from rfl, h.pathIs]
  dsimp only
  rw [good_norm g3, g3, decide_eq_true g4]; rfl
 rw [if_neg k2]
 by_cases k3 : k = 3
 ·subst k3
  rw [if_pos rfl, show valB a 3 = big a.hop 4 from rfl, val_big4 o3, g5 hb]; rfl
 rw [if_neg k3]
def oneB (a : At) (k : Nat) : List Nat := if hasB a.has (k : Int) then attrB a k else []
theorem encA_is (a : At) : encA a = oneB a 1 ++ (oneB a 2 ++ (oneB a 3 ++ (oneB a 4 ++ (oneB a 5 ++ (oneB a 6 ++ (oneB a 7 ++ (oneB a 8 ++ []))))))) := by
 show encTo a 8 = _
 simp only [encTo, oneB, List.nil_append, List.append_assoc, List.append_nil]
theorem attrB_small (a : At) {k : Nat} (h1 : 1 ≤ k) (h8 : k ≤ 8) (hl : (valB a k).length ≤ 65535) : Small (attrB a k) := by
 have hs := valB_small a k
 have hf : longF (flagN k) (valB a k).length < 256 := by
  unfold longF
  rcases flagN_is3 h1 h8 with e | e | e <;> rw [e] <;> split <;> omega
 unfold attrB itemB
 split
 ·intro n hn
  simp only [List.mem_cons, List.mem_append] at hn
  rcases hn with rfl | rfl | hn | hn
  ·exact hf
  ·omega
  ·exact big_small _ _ n hn
  ·exact hs n hn
 ·rename_i hq
  intro n hn
  simp only [List.mem_cons] at hn
  rcases hn with rfl | rfl | rfl | hn
  ·exact hf
  ·omega
  ·unfold longF at hq
   rcases flagN_is3 h1 h8 with e | e | e <;> rw [e] at hq <;> split at hq <;> omega
  ·exact hs n hn
theorem oneB_small {a : At} (h : GoodR a) {k : Nat} (h1 : 1 ≤ k) (h8 : k ≤ 8) : Small (oneB a k) := by
 unfold oneB
 split
 ·exact attrB_small a h1 h8 (by have := valB_len h.good k; omega)
 ·exact small_nil
theorem dec_step {a : At} (h : GoodR a) {k : Nat} (h1 : 1 ≤ k) (h8 : k ≤ 8) {seen : List Nat} (hs : ∀ x ∈ seen, x < k) {r : List Nat} (hr : Small r) :
  ∃ s2, (∀ x ∈ s2, x < k + 1) ∧ decF seen (partA a (k - 1)) (oneB a k ++ r) = decF s2 (partA a k) r := by
 cases hb : hasB a.has (k : Int) with
 | false =>
  refine ⟨seen, fun x hx => by have := hs x hx; omega, ?_⟩
  have e : oneB a k = [] := by unfold oneB; rw [hb]; rfl
  rw [e, List.nil_append, part_no h1 h8 hb]
 | true =>
  have e : oneB a k = attrB a k := by unfold oneB; rw [hb]; rfl
  have hl : (valB a k).length ≤ 65535 := by have := valB_len h.good k; omega
  refine ⟨k :: seen, fun x hx => ?_, ?_⟩
  ·rcases List.mem_cons.1 hx with rfl | hx
   ·omega
   ·have := hs x hx; omega
  ·have hi : itemOf (attrB a k ++ r) = some ⟨longF (flagN k) (valB a k).length, k, valB a k, r⟩ := itemB_back hl
   rw [e, decF_some ((attrB_small a h1 h8 hl).append hr) hi]
   dsimp only
   rw [if_neg (fun hm => by have := hs k hm; omega), if_pos (sub_zero h h1 h8 hb), part_yes h h1 h8 hb]
theorem dec_enc {a : At} (h : GoodR a) : decodeA (encA a) = .inr a := by
 have r9 : Small [] := small_nil
 have r8 := (oneB_small h (k := 8) (by omega) (by omega)).append r9
 have r7 := (oneB_small h (k := 7) (by omega) (by omega)).append r8
 have r6 := (oneB_small h (k := 6) (by omega) (by omega)).append r7
 have r5 := (oneB_small h (k := 5) (by omega) (by omega)).append r6
 have r4 := (oneB_small h (k := 4) (by omega) (by omega)).append r5
 have r3 := (oneB_small h (k := 3) (by omega) (by omega)).append r4
 have r2 := (oneB_small h (k := 2) (by omega) (by omega)).append r3
 show decF [] zeroA (encA a) = _
 rw [encA_is]
 obtain ⟨s1, g1, e1⟩ := dec_step h (k := 1) (by omega) (by omega) (seen := []) (fun x hx => by cases hx) r2
 obtain ⟨s2, g2, e2⟩ := dec_step h (k := 2) (by omega) (by omega) g1 r3
 obtain ⟨s3, g3, e3⟩ := dec_step h (k := 3) (by omega) (by omega) g2 r4
 obtain ⟨s4, g4, e4⟩ := dec_step h (k := 4) (by omega) (by omega) g3 r5
 obtain ⟨s5, g5, e5⟩ := dec_step h (k := 5) (by omega) (by omega) g4 r6
 obtain ⟨s6, g6, e6⟩ := dec_step h (k := 6) (by omega) (by omega) g5 r7
 obtain ⟨s7, g7, e7⟩ := dec_step h (k := 7) (by omega) (by omega) g6 r8
 obtain ⟨s8, g8, e8⟩ := dec_step h (k := 8) (by omega) (by omega) g7 r9
 have e0 : partA a (1 - 1) = zeroA := by simp [partA, hasUpto, zeroA]
 rw [e0] at e1
 rw [e1]
 refine (e2.trans (e3.trans (e4.trans (e5.trans (e6.trans (e7.trans e8)))))).trans ?_
 rw [decF_nil, part_eight h.parts.1, h.parts.1]
end Go.Proofs.YtlhdjdnflpilbaaGreatDoor.Att
namespace Go.Proofs.YtlhdjdnflpilbaaGreatDoor.Upd
open Oct Att PR
theorem lead {m r : List Nat} (hm : m.length < 65536) : (big m.length 2 ++ m ++ r).take 2 = big m.length 2 ∧ val ((big m.length 2 ++ m ++ r).take 2) = m.length ∧ ((big m.length 2 ++ m ++ r).drop 2).take m.length = m ∧ (big m.length 2 ++ m ++ r).drop (2 + m.length) = r := by
 have h2 : (big m.length 2).length = 2 := big_len _ _
 have e1 : (big m.length 2 ++ m ++ r).take 2 = big m.length 2 := by rw [List.append_assoc, List.take_left' h2]
 refine ⟨e1, by rw [e1, val_big2 hm], ?_, ?_⟩
 ·rw [List.append_assoc, List.drop_left' h2, List.take_left' rfl]
 ·rw [List.drop_left' (by rw [List.length_append, h2])]
theorem encs_pos {p : Pf} {l : List Pf} : encs (p :: l) ≠ [] := by
 intro h
 have e : encs (p :: l) = enc p ++ encs l := by simp [encs]
 rw [e] at h
 have := (List.append_eq_nil_iff.1 h).1
 unfold enc at this
 cases this
theorem dec_encU {u : Up} (hg : goodU u = true) (ho : Oks u.gone) (hh : Oks u.here) (hr : u.here ≠ [] → GoodR u.at_) (hl : (encU u).length ≤ 4077) : decU (encU u) = .inr u := by
 obtain ⟨g, a, h⟩ := u
 unfold goodU at hg
 simp only [Bool.and_eq_true] at hg
 dsimp only at hg ho hh hr hl
 obtain ⟨⟨g1, g2⟩, g3⟩ := hg
 have hl1 : (encs g).length ≤ 4077 := by unfold encU at hl; simp only [List.length_append, big_len] at hl; omega
 have hl2 : (encA a).length ≤ 4077 := by unfold encU at hl; simp only [List.length_append, big_len] at hl; omega
 have e : encU ⟨g, a, h⟩ = big (encs g).length 2 ++ encs g ++ (big (encA a).length 2 ++ encA a ++ encs h) := by unfold encU; simp
 rw [e]
 obtain ⟨-, v1, t1, d1⟩ := lead (m := encs g) (r := big (encA a).length 2 ++ encA a ++ encs h) (by omega)
 obtain ⟨-, v2, t2, d2⟩ := lead (m := encA a) (r := encs h) (by omega)
 unfold decU
 rw [v1, t1, d1, if_neg (by simp only [List.length_append, big_len]; omega), if_neg (by simp only [List.length_append, big_len]; omega), dec_encs g1 ho]
 unfold decU1
 dsimp only
 rw [v2, t2, d2, if_neg (by simp only [List.length_append, big_len]; omega), if_neg (by simp only [List.length_append, big_len]; omega)]
 cases h with
 | nil =>
  rw [if_pos rfl] at g3
  obtain rfl := sameA_iff.1 g3
  have e0 : encA zeroA = [] := by decide +kernel
  rw [e0]
  have e1 : decodeA [] = .inr zeroA := by kernel_rfl
  rw [e1]
  show decU3 g zeroA (encs []) = _
  unfold decU3
  rw [if_pos (by simp [encs])]
 | cons p l =>
  rw [if_neg (by simp), Bool.and_eq_true] at g3
  rw [Att.dec_enc (hr (by simp))]
  show decU3 g a (encs (p :: l)) = _
  unfold decU3
  rw [if_neg encs_pos, if_neg (by rw [g3.2]; decide), dec_encs g2 hh]
end Go.Proofs.YtlhdjdnflpilbaaGreatDoor.Upd
namespace Go.Proofs.YtlhdjdnflpilbaaGreatDoor.Att
open Go.RowKit Mem Segm Oct Seg
theorem segs_small {W : World} {v : Value} {p : List Piece} (h : Segs W v p) : ∀ s ∈ p, ∀ n ∈ s.2, n < 4294967296 := by
 intro s hs n hn
 obtain ⟨A, c, rfl, -, -⟩ := h.form
 obtain ⟨i, hi, rfl⟩ := List.getElem_of_mem hs
 obtain ⟨b, off, x, -, -, -, -, hx⟩ := h.at_ (List.getElem?_eq_getElem hi)
 exact hx.2 n hn
theorem goodR_of {W : World} {v : Value} {q : At} (h : Attrs W v q) (hg : goodA q = true) : GoodR q := by
 obtain ⟨hok, vp, vc, rfl, hP, hC⟩ := h
 exact ⟨hg, segs_small hP, hC.2, hok⟩
theorem encA_small {a : At} (h : GoodR a) : Small (encA a) := by
 rw [encA_is]
 exact (oneB_small h (by omega) (by omega)).append ((oneB_small h (by omega) (by omega)).append ((oneB_small h (by omega) (by omega)).append ((oneB_small h (by omega) (by omega)).append ((oneB_small h (by omega) (by omega)).append ((oneB_small h (by omega) (by omega)).append ((oneB_small h (by omega) (by omega)).append ((oneB_small h (by omega) (by omega)).append small_nil)))))))
end Go.Proofs.YtlhdjdnflpilbaaGreatDoor.Att
