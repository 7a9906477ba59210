/- The reference's Add of counts: a key that is new. -/
import Derived.Test.YtifaclbafmpiiaaTalRef
namespace Go.Proofs.Ytifaclbafmpiiaa.Tal
open Go.RowKit Mem

/-- A row put where its key belongs. -/
def insS : List Cnt → Cnt → List Cnt
  | [], r => [r]
  | x :: l, r => if x.key < r.key then x :: insS l r else r :: x :: l
theorem ins_at : ∀ (l : List Cnt) (r : Cnt) (k : Nat), k ≤ l.length → (∀ y ∈ l.take k, y.key < r.key) → (k = l.length ∨ ∃ x, l[k]? = some x ∧ ¬ x.key < r.key) → insS l r = l.take k ++ r :: l.drop k
  | [], r, k, hk, _, _ => by
    have : k = 0 := by simpa using hk
    subst this; rfl
  | x :: l, r, 0, _, _, h => by
    rcases h with h | ⟨y, hy, hlt⟩
    · simp at h
    · obtain rfl : x = y := by simpa using hy
      simp [insS, hlt]
  | x :: l, r, k + 1, hk, h1, h2 => by
    have hx := h1 x (by simp)
    have ih := ins_at l r k (by simpa using hk) (fun y hy => h1 y (by simp [hy])) (by simpa using h2)
    simp [insS, hx, ih]
theorem insS_len (l : List Cnt) (r : Cnt) : (insS l r).length = l.length + 1 := by
  induction l with
  | nil => rfl
  | cons x l ih =>
    unfold insS
    split
    · simp [ih]
    · simp
theorem elemCnt : ∃ i, IsElem Try.prog 26 32 3 24 i (.agg #[.int .u32 0, .int .i64 0, .int .i64 0]) := IsElem.mk_ Try.underlying26 (by kernel_rfl) rfl (by decide)
theorem own_blk3 {W : World} {base B : Nat} {t : TypeId} (hB : base ≤ B) (h : W.heap[B]? = some (.cells #[] t (0, 0))) : W.ownsRow base t 3 (.slice (some ⟨B, 0, none⟩) 0 0) 0 [] :=
  ⟨rfl, .inr ⟨B, 0, #[], rfl, hB, h, Nat.le_refl _, Nat.zero_le _, rfl, rfl⟩⟩
theorem one_blk3 {W : World} {B : Nat} {t : TypeId} {x y z : Value} (h : W.heap[B]? = some (.cells #[x, y, z] t (0, 0))) : Row W 3 (.slice (some ⟨B, 0, none⟩) 1 1) 1 [x, y, z] :=
  Row.of_own (base := 0) (e := t) ⟨rfl, .inr ⟨B, 1, #[x, y, z], rfl, Nat.zero_le _, h, Nat.le_refl _, by decide, rfl, rfl⟩⟩
/-- What is behind a place, as the walk spells it. -/
theorem cut3_at {w : World} {b off n c k : Nat} {cs : List Value} (h : Row w 3 (.slice (some ⟨b, off, none⟩) n c) n cs) (hk : k ≤ n) :
    Row w 3 (.slice (if c = k then some ⟨b, off, none⟩ else some ⟨b, off + k * 3, none⟩) (n - k) (c - k)) (n - k) (cs.drop (k * 3)) := by
  have := h.cut hk
  have e : (if c = k then some (⟨b, off, none⟩ : Addr) else (some (⟨b, off, none⟩ : Addr)).map (·.add (k * 3))) = if c = k then some ⟨b, off, none⟩ else some ⟨b, off + k * 3, none⟩ := by
    split
    · rfl
    · simp only [Option.map]
      unfold Addr.add
      split
      · rename_i h0; rw [h0]; rfl
      · rfl
  rwa [e] at this
/-- What a call gives: rows in memory of its own. -/
def GivesC (l : List Cnt) (w : World) (e : Ending) (w' : World) : Prop := ∃ v, e = .returned (.tuple #[v, .int .i64 0]) ∧ w'.ownsRow w.heap.size 32 3 v l.length (cntCells l) ∧ Below w.heap.size w w'
theorem ins_end {w w3 : World} {v3 : Value} {l : List Cnt} {r : Cnt} {k : Nat} (hown : w3.ownsRow w.heap.size 32 3 v3 (l.length + 1) ([] ++ cntCells (l.take k) ++ [.int .u32 r.key, .int .i64 r.up, .int .i64 r.down] ++ cntCells (l.drop k)))
    (hb : Below w.heap.size w w3) (hp : insS l r = l.take k ++ r :: l.drop k) : GivesC (insS l r) w (.returned (.tuple #[v3, .int .i64 0])) w3 := by
  refine ⟨v3, rfl, ?_, hb⟩
  rw [insS_len, hp, cntCells_append, cntCells_cons]
  simpa [cntCell] using hown
theorem ones_three (a b c : Int) : ∀ u ∈ [Value.int .u32 a, Value.int .i64 b, Value.int .i64 c], u.oneCell' = true := fun u hu => by
  simp only [List.mem_cons, List.not_mem_nil, or_false] at hu
  rcases hu with rfl | rfl | rfl <;> rfl
theorem row_three (w : World) (a b c : Int) (t : TypeId) : Row (w.alloc (.cells #[.int .u32 a, .int .i64 b, .int .i64 c] t)) 3 (.slice (some ⟨w.heap.size, 0, none⟩) 1 1) 1 [.int .u32 a, .int .i64 b, .int .i64 c] := one_blk3 (heap_alloc_new _ _)

set_option maxHeartbeats 4000000 in
set_option maxRecDepth 100000 in
theorem radd_new (v : Value) (l : List Cnt) (key up down : Nat) (w : World) (hv : Cnts w v l) (hn : idx l key = none) (hlen : l.length ≤ 2000) (hu : up ≤ 1073741824) (hd : down ≤ 1073741824) :
    Calls Try.prog 13 #[v, .int .u32 key, .int .i64 up, .int .i64 down] w (GivesC (insS l ⟨key, up, down⟩) w) := by
  have hA := at_any v l key w hv
  rw [hn] at hA
  have CA := Go.Lib.hid hA
  obtain ⟨i, E⟩ := elemCnt
  have HV := Go.Lib.hid hv
  obtain ⟨A, c, rfl, hlc, hc⟩ := hv.form
  have g1 : decide ((10000 : Int) ≤ (l.length : Int)) = false := by simp; omega
  have g2 : decide ((549755813888 : Int) < (up : Int)) = false := by simp; omega
  have g3 : decide ((549755813888 : Int) < (down : Int)) = false := by simp; omega
  have e9 : idxV none = -1 := rfl
  rw [e9] at CA
  clear hA hn hv e9
  go_enter Try.func13, Try.ntmps13
  go_wp2_with (go_at_call 9; refine (CA.out).mono ?_; rintro e w' ⟨rfl, rfl⟩)
  go_loop [11] (fun i => ∃ k : Nat, k ≤ l.length ∧ i = .int .i64 k ∧ ∀ y ∈ l.take k, y.key < key) (fun i => l.length - (intOf i).toNat)
  case atStart => exact ⟨0, Nat.zero_le _, rfl, by simp⟩
  case round =>
    obtain ⟨k, hk, rfl, hno⟩ := hrel
    have HNo := Go.Lib.hid hno
    clear hno
    by_cases hlt : k < l.length
    · obtain ⟨r, hr⟩ : ∃ r, l[k]? = some r := ⟨_, List.getElem?_eq_getElem hlt⟩
      obtain ⟨b, off, rfl, _, k1, _, _⟩ := (HV.out).at_ hr
      have HR := Go.Lib.hid hr
      obtain ⟨x, hx⟩ : ∃ x, x = r.key := ⟨_, rfl⟩
      rw [← hx] at k1
      have HX := Go.Lib.hid hx
      clear hr hx
      have k0 : (0 : Int) ≤ (k : Int) := by omega
      have k2 : (k : Int) < (l.length : Int) := by omega
      by_cases he : x < key
      · go_wp2
        go_round
        case rel => exact ⟨k + 1, by omega, by go_num, fun y hy => by
                      rw [List.take_add_one, HR.out] at hy
                      simp at hy
                      rcases hy with hy | hy
                      · exact HNo.out y hy
                      · rw [hy, ← HX.out]; exact he⟩
        case measure => simp [intOf]; omega
      · have hxd : decide ((x : Int) < (key : Int)) = false := by simp; omega
        have y1 : (k : Int) ≤ (c : Int) := by omega
        have y2 : (k : Int) ≤ (l.length : Int) := by omega
        have hR1 := Row.prefix_ (HV.out) (k := k) (by omega)
        rw [cntCells_take] at hR1
        have hR2 := cut3_at (HV.out) (k := k) (by omega)
        rw [cntCells_drop] at hR2
        go_wp2
        go_region_held3 (fun w' => Below w.heap.size w w') (first | assumption | exact (Below.refl _ _).drew | exact Below.alloc (by assumption) (Below.size (by assumption)) _ | exact Below.drew (by assumption) | exact Below.refl _ _ | (trace_state; fail))
          (first
            | (refine step_append_row (by rfl) (.tmp 45) (.tmp 48) (by rfl) E w.heap.size _ 0 [] (by rfl) ?_ _ k (cntCells (l.take k)) (by rfl) ?_ (ones_cnt (l.take k)) ?_ ?_ ?_ k (Nat.zero_add k) ?_
               · exact own_blk3 (by simp) (by simp only [heap_dr, heap_al, Array.getElem?_push, Array.size_push]; simp)
               · exact hR1.keep (by assumption)
               · unfold maxLen; omega
               · omega
               · simp; try omega
               intro A1 c1 w1 hown1 hg1 hat1 hb0
               have hb1 : Below w.heap.size w w1 := Below.trans (by assumption) hb0
               clear hb0)
            | (refine step_append_row (by rfl) (.tmp 49) (.tmp 54) (by rfl) E w.heap.size (.slice A1 k c1) k _ (by rfl) hown1 _ 1 [.int .u32 key, .int .i64 up, .int .i64 down] (by rfl) ?_ (ones_three _ _ _) ?_ ?_ hb1.size (k + 1) rfl ?_
               · refine one_blk3 (t := 32) ((hg1.block _ ?_ ?_).trans ?_)
                 · simp only [heap_dr, heap_al, Array.size_push]; omega
                 · simp [Act.eval, Value.ownBlock]; try omega
                 · simp only [heap_dr, heap_al, Array.getElem?_push, Array.size_push]; simp
               · unfold maxLen; omega
               · omega
               intro A2 c2 w2 hown2 hg2 hat2 hb0
               have hb2 : Below w.heap.size w w2 := Below.trans hb1 hb0
               clear hb0)
            | (refine step_append_row (by rfl) (.tmp 49) (.tmp 54) (by rfl) E w.heap.size (.slice A1 k c1) k _ (by rfl) (hown1.alloc _) _ 1 [.int .u32 key, .int .i64 up, .int .i64 down] (by rfl) ?_ (ones_three _ _ _) ?_ ?_ ?_ (k + 1) rfl ?_
               · exact row_three _ _ _ _ _
               · unfold maxLen; omega
               · omega
               · exact Nat.le_trans hb1.size (by simp)
               intro A2 c2 w2 hown2 hg2 hat2 hb0
               have hb2 : Below w.heap.size w w2 := Below.trans (by assumption) hb0
               clear hb0)
            | (refine step_append_row (by rfl) (.tmp 55) (.tmp 58) (by rfl) E w.heap.size (.slice A2 (k + 1) c2) (k + 1) _ (by rfl) hown2 _ (l.length - k) (cntCells (l.drop k)) (by rfl) ?_ (ones_cnt (l.drop k)) ?_ ?_ hb2.size (l.length + 1) (by omega) ?_
               · exact hR2.keep hb2
               · unfold maxLen; omega
               · omega
               intro A3 c3 w3 hown3 hg3 hat3 hb0
               have hb3 : Below w.heap.size w w3 := Below.trans hb2 hb0
               clear hb0))
        all_goals go_wp2
        all_goals go_ret2
        all_goals exact ins_end (r := ⟨key, up, down⟩) hown3 hb3 (ins_at l _ k hk HNo.out (.inr ⟨_, HR.out, by rw [← HX.out]; exact he⟩))
    · have hkl : k = l.length := by omega
      have hdl : decide ((k : Int) < (l.length : Int)) = false := by simp; omega
      clear hkl
      have y1 : (k : Int) ≤ (c : Int) := by omega
      have y2 : (k : Int) ≤ (l.length : Int) := by omega
      have hR1 := Row.prefix_ (HV.out) (k := k) (by omega)
      rw [cntCells_take] at hR1
      have hR2 := Row.cut (HV.out) (k := k) (by omega)
      rw [cntCells_drop] at hR2
      go_wp2
      go_region_held3 (fun w' => Below w.heap.size w w') (first | assumption | exact (Below.refl _ _).drew | exact Below.alloc (by assumption) (Below.size (by assumption)) _ | exact Below.drew (by assumption) | exact Below.refl _ _ | (trace_state; fail))
        (first
          | (refine step_append_row (by rfl) (.tmp 45) (.tmp 48) (by rfl) E w.heap.size _ 0 [] (by rfl) ?_ _ k (cntCells (l.take k)) (by rfl) ?_ (ones_cnt (l.take k)) ?_ ?_ ?_ k (Nat.zero_add k) ?_
             · exact own_blk3 (by simp) (by simp only [heap_dr, heap_al, Array.getElem?_push, Array.size_push]; simp)
             · exact hR1.keep (by assumption)
             · unfold maxLen; omega
             · omega
             · simp; try omega
             intro A1 c1 w1 hown1 hg1 hat1 hb0
             have hb1 : Below w.heap.size w w1 := Below.trans (by assumption) hb0
             clear hb0)
          | (refine step_append_row (by rfl) (.tmp 49) (.tmp 54) (by rfl) E w.heap.size (.slice A1 k c1) k _ (by rfl) hown1 _ 1 [.int .u32 key, .int .i64 up, .int .i64 down] (by rfl) ?_ (ones_three _ _ _) ?_ ?_ hb1.size (k + 1) rfl ?_
             · refine one_blk3 (t := 32) ((hg1.block _ ?_ ?_).trans ?_)
               · simp only [heap_dr, heap_al, Array.size_push]; omega
               · simp [Act.eval, Value.ownBlock]; try omega
               · simp only [heap_dr, heap_al, Array.getElem?_push, Array.size_push]; simp
             · unfold maxLen; omega
             · omega
             intro A2 c2 w2 hown2 hg2 hat2 hb0
             have hb2 : Below w.heap.size w w2 := Below.trans hb1 hb0
             clear hb0)
          | (refine step_append_row (by rfl) (.tmp 49) (.tmp 54) (by rfl) E w.heap.size (.slice A1 k c1) k _ (by rfl) (hown1.alloc _) _ 1 [.int .u32 key, .int .i64 up, .int .i64 down] (by rfl) ?_ (ones_three _ _ _) ?_ ?_ ?_ (k + 1) rfl ?_
             · exact row_three _ _ _ _ _
             · unfold maxLen; omega
             · omega
             · exact Nat.le_trans hb1.size (by simp)
             intro A2 c2 w2 hown2 hg2 hat2 hb0
             have hb2 : Below w.heap.size w w2 := Below.trans (by assumption) hb0
             clear hb0)
          | (refine step_append_row (by rfl) (.tmp 55) (.tmp 58) (by rfl) E w.heap.size (.slice A2 (k + 1) c2) (k + 1) _ (by rfl) hown2 _ (l.length - k) (cntCells (l.drop k)) (by rfl) ?_ (ones_cnt (l.drop k)) ?_ ?_ hb2.size (l.length + 1) (by omega) ?_
             · exact hR2.keep hb2
             · unfold maxLen; omega
             · omega
             intro A3 c3 w3 hown3 hg3 hat3 hb0
             have hb3 : Below w.heap.size w w3 := Below.trans hb2 hb0
             clear hb0))
      all_goals go_wp2
      all_goals go_ret2
      all_goals exact ins_end (r := ⟨key, up, down⟩) hown3 hb3 (ins_at l _ k hk HNo.out (.inl (by omega)))
end Go.Proofs.Ytifaclbafmpiiaa.Tal
