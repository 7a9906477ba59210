/- TallyPlays: the code of a round in pieces, and what stands between its calls. -/
import Derived.Test.YtifaclbafmpiiaaTalJoin
import Derived.Deep.Cut
import Derived.Deep.CutRange
import Derived.Deep.CutBlock
import Derived.BigRegion
import Derived.BigQuiet
import Derived.Deep.RegionHeld3
import Derived.Laws.OwnMore
import Derived.Outline
namespace Go.Proofs.Ytifaclbafmpiiaa.Tal
open Go.RowKit Mem Go.Maps

/-- A block of a code, by its number; what follows it. -/
def blkOf (n : Nat) : Code → Option Code
  | .block m c => if m = n then some (.block m c) else blkOf n c
  | .loop c => blkOf n c
  | .scope c => blkOf n c
  | .seq a b => match blkOf n a with
    | some c => some c
    | none => blkOf n b
  | .cond _ a b => match blkOf n a with
    | some c => some c
    | none => blkOf n b
  | _ => none
def endsIn (n : Nat) : Code → Bool
  | .block m _ => m == n
  | .seq _ b => endsIn n b
  | .scope c => endsIn n c
  | _ => false
def behind (n : Nat) : Code → Option Code
  | .block _ c => behind n c
  | .loop c => behind n c
  | .scope c => behind n c
  | .seq a b => if endsIn n a then some b else match behind n a with
    | some c => some c
    | none => behind n b
  | .cond _ a b => match behind n a with
    | some c => some c
    | none => behind n b
  | _ => none
noncomputable def swC : Code := (Try.f3.body.bind (blkOf 2)).getD .skip
noncomputable def chkC : Code := (Try.f3.body.bind (behind 2)).getD .skip
theorem wp_code {C D : Code} {Q : Exit → Go.Act → World → Prop} {a : Go.Act} {w : World} (h : C = D) (H : Code.wp Try.prog C Q a w) : Code.wp Try.prog D Q a w := h ▸ H
/-- The rows that the law keeps, beside the tally. -/
structure St (w : World) (t : Value) (i : Nat) (v : Value) (L : List Cnt) (F : Nat → Prop) (W : World) : Prop where
  tally : T W t L F
  rows : W.ownsRow w.heap.size 32 3 v L.length (cntCells L)
  apart : ∀ g, v.ownBlock = some g → ¬ F g
  own : ∀ k, F k → w.heap.size ≤ k
  under : Under (i * 1073741824) L
  len : L.length ≤ i
  below : Below w.heap.size w W
theorem St.cnts {w : World} {t : Value} {i : Nat} {v : Value} {L : List Cnt} {F : Nat → Prop} {W : World} (h : St w t i v L F W) : Cnts W v L := Row.of_own h.rows
theorem own_moved {W W' : World} {F F' : Nat → Prop} {base : Nat} {e : TypeId} {size : Nat} {v : Value} {n : Nat} {xs : List Value} (h : W.ownsRow base e size v n xs) (hm : Moved F F' W W') (hv : ∀ g, v.ownBlock = some g → ¬ F g) : W'.ownsRow base e size v n xs := by
  obtain ⟨h1, h2⟩ := h
  refine ⟨h1, ?_⟩
  rcases h2 with h2 | ⟨g, cap, cur, hv2, hg, hh, r⟩
  · exact .inl h2
  · exact .inr ⟨g, cap, cur, hv2, hg, (hm.block g (Array.getElem?_eq_some_iff.1 hh).1 (hv g (by rw [hv2]; rfl))).trans hh, r⟩
theorem own_lt {W : World} {base : Nat} {e : TypeId} {size : Nat} {v : Value} {n : Nat} {xs : List Value} (h : W.ownsRow base e size v n xs) {g : Nat} (hg : v.ownBlock = some g) : g < W.heap.size := (h.lt g hg).2
/-- A world that has turned by new blocks alone. -/
theorem St.keep {w : World} {t : Value} {i : Nat} {v : Value} {L : List Cnt} {F : Nat → Prop} {W W' : World} (h : St w t i v L F W) (hb : Below W.heap.size W W') : St w t i v L F W' :=
  ⟨face_T.below h.tally hb, own_keep h.rows hb, h.apart, h.own, h.under, h.len, h.below.trans (hb.mono h.below.size)⟩
theorem St.later {w : World} {t : Value} {i j : Nat} {v : Value} {L : List Cnt} {F : Nat → Prop} {W : World} (h : St w t i v L F W) (hj : i ≤ j) : St w t j v L F W :=
  ⟨h.tally, h.rows, h.apart, h.own, fun r hr => ⟨Nat.le_trans (h.under r hr).1 (Nat.mul_le_mul_right _ hj), Nat.le_trans (h.under r hr).2 (Nat.mul_le_mul_right _ hj)⟩, Nat.le_trans h.len hj, h.below⟩
/-- The tally has turned, the rows have not. -/
theorem St.turned {w : World} {t : Value} {i j : Nat} {v : Value} {L L' : List Cnt} {F F' : Nat → Prop} {W W' : World} (h : St w t i v L F W) (hT : T W' t L' F') (hm : Moved F F' W W') (hr : L' = L) (hj : i ≤ j) : St w t j v L F' W' := by
  subst hr
  refine ⟨hT, own_moved h.rows hm h.apart, fun g hg hf => ?_, hm.low h.own h.below.size, (h.later hj).under, Nat.le_trans h.len hj, h.below.trans (hm.below h.own h.below.size)⟩
  have := own_lt h.rows hg
  exact (hm.new g hf).elim (h.apart g hg) (fun h2 => by omega)
/-- The tally has turned, and rows are laid anew behind it. -/
theorem St.anew {w : World} {t : Value} {i j : Nat} {v v' : Value} {L L' : List Cnt} {F F' : Nat → Prop} {W W1 W' : World} (h : St w t i v L F W) (hT : T W1 t L' F') (hm : Moved F F' W W1) (hb : Below W1.heap.size W1 W') {base : Nat} (hbase : W1.heap.size ≤ base)
    (hr : W'.ownsRow base 32 3 v' L'.length (cntCells L')) (hu : Under (j * 1073741824) L') (hl : L'.length ≤ j) : St w t j v' L' F' W' := by
  have hs := Nat.le_trans h.below.size hm.size
  refine ⟨face_T.below hT hb, ?_, fun g hg hf => ?_, hm.low h.own h.below.size, hu, hl, (h.below.trans (hm.below h.own h.below.size)).trans (hb.mono hs)⟩
  · obtain ⟨h1, h2⟩ := hr
    refine ⟨h1, ?_⟩
    rcases h2 with h2 | ⟨g, cap, cur, hv2, hg, r⟩
    · exact .inl h2
    · exact .inr ⟨g, cap, cur, hv2, by omega, r⟩
  · have h1 := (hr.lt g hg).1
    have h2 := face_T.lt hT hf
    omega
/-- Rows were laid ahead, and the tally has turned behind. -/
theorem St.joined {w : World} {t : Value} {i j : Nat} {v v' : Value} {L L' : List Cnt} {F F' : Nat → Prop} {W W3 W4 : World} (h : St w t i v L F W) {base : Nat} (hs : W.heap.size ≤ base) (hw : Below w.heap.size w W3)
    (hr : W3.ownsRow base 32 3 v' L'.length (cntCells L')) (hm : Moved F F' W3 W4) (hT : T W4 t L' F') (hu : Under (j * 1073741824) L') (hl : L'.length ≤ j) : St w t j v' L' F' W4 := by
  have hold : ∀ g, v'.ownBlock = some g → ¬ F g := fun g hg hf => by
    have h1 := (hr.lt g hg).1
    have h2 := face_T.lt h.tally hf
    omega
  have hr4 := own_moved hr hm hold
  refine ⟨hT, ?_, fun g hg hf => ?_, hm.low h.own hw.size, hu, hl, hw.trans (hm.below h.own hw.size)⟩
  · obtain ⟨h1, h2⟩ := hr4
    refine ⟨h1, ?_⟩
    rcases h2 with h2 | ⟨g, cap, cur, hv2, hg, r⟩
    · exact .inl h2
    · exact .inr ⟨g, cap, cur, hv2, by have := h.below.size; omega, r⟩
  · have h1 := (hr.lt g hg).2
    exact (hm.new g hf).elim (hold g hg) (fun h2 => by omega)
theorem St.start {w W1 : World} {t : Value} {F : Nat → Prop} (hT : T W1 t [] F) (hF : ∀ k, F k → w.heap.size ≤ k) (hb : Below w.heap.size w W1) : St w t 0 (.slice (some ⟨W1.heap.size, 0, none⟩) 0 0) [] F (W1.alloc (.cells #[] 32)) := by
  have hb2 : Below W1.heap.size W1 (W1.alloc (.cells #[] 32)) := (Below.refl _ W1).alloc (Nat.le_refl _) _
  refine ⟨face_T.below hT hb2, own_blk3 hb.size (MapKept.heap_alloc W1 _).1, fun g hg hf => ?_, hF, fun r hr => by simp at hr, Nat.le_refl _, hb.trans (hb2.mono hb.size)⟩
  have h1 := face_T.lt hT hf
  have h2 : W1.heap.size = g := by simpa [Value.ownBlock] using hg
  omega
/-- The act of a round, laid into a block of its own. -/
theorem act_new {w : World} {t : Value} {i : Nat} {v : Value} {L : List Cnt} {F : Nat → Prop} {W : World} (h : St w t i v L F W) (kind : Int) (key : Nat) (up down : Int) :
    St w t i v L F (W.alloc (.cells #[.int .i64 kind, .int .u32 key, .int .i64 up, .int .i64 down] 28)) ∧ (W.alloc (.cells #[.int .i64 kind, .int .u32 key, .int .i64 up, .int .i64 down] 28)).cell? ⟨W.heap.size, 0, none⟩ = some (.int .i64 kind) ∧
    (W.alloc (.cells #[.int .i64 kind, .int .u32 key, .int .i64 up, .int .i64 down] 28)).cell? ⟨W.heap.size, 1, none⟩ = some (.int .u32 key) ∧ (W.alloc (.cells #[.int .i64 kind, .int .u32 key, .int .i64 up, .int .i64 down] 28)).cell? ⟨W.heap.size, 2, none⟩ = some (.int .i64 up) ∧
    (W.alloc (.cells #[.int .i64 kind, .int .u32 key, .int .i64 up, .int .i64 down] 28)).cell? ⟨W.heap.size, 3, none⟩ = some (.int .i64 down) ∧ W.heap.size < (W.alloc (.cells #[.int .i64 kind, .int .u32 key, .int .i64 up, .int .i64 down] 28)).heap.size :=
  ⟨h.keep ((Below.refl _ W).alloc (Nat.le_refl _) _), by simp, by simp, by simp, by simp, by simp⟩
theorem St.two {w : World} {t : Value} {i : Nat} {v : Value} {L : List Cnt} {F : Nat → Prop} {W : World} (h : St w t i v L F W) {key u d : Nat} (hu : u ≤ 1073741824) (hd : d ≤ 1073741824) : Under ((i + 1) * 1073741824) (addS L key u d) ∧ (addS L key u d).length ≤ i + 1 := by
  have h1 := under_add (key := key) h.under hu hd
  rw [show i * 1073741824 + 1073741824 = (i + 1) * 1073741824 by omega] at h1
  exact ⟨h1, Nat.le_trans (addS_len _ _ _ _) (by have := h.len; omega)⟩
end Go.Proofs.Ytifaclbafmpiiaa.Tal
