/- The reference's Cut of rows; words for rows of three cells. -/
import Derived.Test.YtpcahgnibdampaaTriRef
namespace Go.Proofs.Ytpcahgnibdampaa.Tri
open Go.RowKit Mem PR Pfx

theorem elemE : ∃ i, IsElem Try.prog 28 40 3 24 i (.agg #[.int .u32 0, .int .i64 0, .int .i64 0]) := IsElem.mk_ Try.underlying28 (by kernel_rfl) rfl (by decide)
theorem own_blk3 {W : World} {base B : Nat} {t : TypeId} (hB : base ≤ B) (h : W.heap[B]? = some (.cells #[] t (0, 0))) : W.ownsRow base t 3 (.slice (some ⟨B, 0, none⟩) 0 0) 0 [] :=
  ⟨rfl, .inr ⟨B, 0, #[], rfl, hB, h, Nat.le_refl _, Nat.zero_le _, rfl, rfl⟩⟩
theorem one_blk3 {W : World} {B : Nat} {t : TypeId} {x y z : Value} (h : W.heap[B]? = some (.cells #[x, y, z] t (0, 0))) : Row W 3 (.slice (some ⟨B, 0, none⟩) 1 1) 1 [x, y, z] :=
  Row.of_own (base := 0) (e := t) ⟨rfl, .inr ⟨B, 1, #[x, y, z], rfl, Nat.zero_le _, h, Nat.le_refl _, by decide, rfl, rfl⟩⟩
theorem row_three (w : World) (a b c : Int) (t : TypeId) : Row (w.alloc (.cells #[.int .u32 a, .int .i64 b, .int .i64 c] t)) 3 (.slice (some ⟨w.heap.size, 0, none⟩) 1 1) 1 [.int .u32 a, .int .i64 b, .int .i64 c] := one_blk3 (heap_alloc_new _ _)
theorem ones_three (a b c : Int) : ∀ u ∈ [Value.int .u32 a, Value.int .i64 b, Value.int .i64 c], u.oneCell' = true := fun u hu => by
  simp only [List.mem_cons, List.not_mem_nil, or_false] at hu
  rcases hu with rfl | rfl | rfl <;> rfl
/-- What is behind a place, as the walk spells it. -/
theorem cut3_at {w : World} {b off n c k : Nat} {cs : List Value} (h : Row w 3 (.slice (some ⟨b, off, none⟩) n c) n cs) (hk : k ≤ n) :
    Row w 3 (.slice (if c = k then some ⟨b, off, none⟩ else some ⟨b, off + k * 3, none⟩) (n - k) (c - k)) (n - k) (cs.drop (k * 3)) := by
  have := h.cut hk
  have e : (if c = k then some (⟨b, off, none⟩ : Addr) else (some (⟨b, off, none⟩ : Addr)).map (·.add (k * 3))) = if c = k then some ⟨b, off, none⟩ else some ⟨b, off + k * 3, none⟩ := by
    split
    · rfl
    · simp only [Option.map]
      unfold Addr.add
      split
      · rename_i h0; rw [h0]; rfl
      · rfl
  rwa [e] at this
/-- What Put and Cut give: rows that are read, the old ones or new ones. -/
def RowsF (v0 : Value) (l : List Ent) (w : World) (e : Ending) (w' : World) : Prop :=
  ∃ v, e = .returned v ∧ Rws w' v l ∧ (v = v0 ∨ ∀ g, v.ownBlock = some g → w.heap.size ≤ g ∧ g < w'.heap.size) ∧ Below w.heap.size w w'
theorem rows_end {w w' w3 : World} {v v0 : Value} {l m : List Ent} {n : Nat} {cs : List Value} {t : TypeId} (hown : w3.ownsRow w'.heap.size t 3 v n cs) (hn : n = m.length) (hc : cs = ecells m) (he : Eoks m) (hm : m = l) (hb : Below w.heap.size w w') (hb2 : Below w'.heap.size w' w3) : RowsF v0 l w (.returned v) w3 := by
  subst hm hn hc
  exact ⟨v, rfl, Rws.of_own hown he, .inr fun g hg => ⟨Nat.le_trans hb.size (hown.lt g hg).1, (hown.lt g hg).2⟩, hb.trans (hb2.mono hb.size)⟩

set_option maxRecDepth 100000 in
set_option maxHeartbeats 8000000 in
theorem rcut_any (v : Value) (l : List Ent) (p : Pf) (w : World) (hv : Rws w v l) (hl : l.length ≤ 1000) :
    Calls Try.prog 26 #[v, pV p] w (RowsF v (cutE l p) w) := by
  obtain ⟨i0, E⟩ := elemE
  have HV := Go.Lib.hid hv
  have CA := Go.Lib.hid (fun (W : World) (h : Rws W v l) => at_any v l p W h)
  obtain ⟨A, c, rfl, hlc, hc⟩ := hv.form
  obtain ⟨R, hR⟩ : ∃ R, R = cutE l p := ⟨_, rfl⟩
  rw [← hR]
  have HR := Go.Lib.hid hR
  obtain ⟨i, hi⟩ : ∃ i, i = posE l p := ⟨_, rfl⟩
  rw [← hi] at CA
  have HI := Go.Lib.hid hi
  obtain ⟨qa, qn⟩ := p
  unfold pV at CA ⊢
  dsimp only at CA ⊢
  have hb0 := below_new w (.cells #[.int .u32 (qa : Int), .int .i64 qn] 25)
  obtain ⟨c0, c1⟩ := cells_two w (.int .u32 (qa : Int)) (.int .i64 qn) 25
  have HB := Go.Lib.hid hb0
  have HV0 := Go.Lib.hid (hv.keep hb0)
  clear hv hR hb0 hi
  rcases i with _ | i
  · have HE := Go.Lib.hid (show R = l by rw [HR.out]; exact cut_no l _ (pos_no HI.out.symm))
    simp only [idxV] at CA
    go_enter Try.func26, Try.ntmps26
    go_wp2_with (go_at_call 9; refine (CA.out _ HV0.out).mono ?_; rintro e w1 ⟨rfl, hb1⟩; have HB1 := Go.Lib.hid (HB.out.trans (hb1.mono HB.out.size)); clear hb1)
    go_ret
    exact ⟨_, rfl, by rw [HE.out]; exact HV.out.keep HB1.out, .inl rfl, HB1.out⟩
  · have hst := pos_stands HI.out.symm
    obtain ⟨⟨x, hx, _⟩, _⟩ := hst
    have hil := (List.getElem?_eq_some_iff.1 hx).1
    obtain ⟨bl, off, rfl, hbl, _, _, _⟩ := (HV.out).at_ hx
    have HE := Go.Lib.hid (show l.take i ++ l.drop (i + 1) = R by rw [HR.out]; exact (cut_at l _ i (pos_stands HI.out.symm)).symm)
    have HOK := Go.Lib.hid (show Eoks (l.take i ++ l.drop (i + 1)) from fun e he => HV.out.2 e ((List.mem_append.1 he).elim List.mem_of_mem_take List.mem_of_mem_drop))
    simp only [idxV] at CA
    obtain ⟨k, hk⟩ : ∃ k, k = i + 1 := ⟨_, rfl⟩
    have HK := Go.Lib.hid hk
    rw [← hk] at HE HOK
    have hR1 := (HV.out).1.prefix_ (k := i) (by omega)
    rw [ecells_take] at hR1
    have hR2 := cut3_at (HV.out).1 (k := k) (by omega)
    rw [ecells_drop] at hR2
    have HR1 := Go.Lib.hid hR1
    have HR2 := Go.Lib.hid hR2
    have z0 : (0 : Int) ≤ (i : Int) := by omega
    have zn : decide ((i : Int) < 0) = false := decide_eq_false (by omega)
    have zk : IntKind.i64.wrap ((i : Int) + 1) = (k : Int) := by rw [IntKind.wrap_i64]; omega
    have y1 : (i : Int) ≤ (c : Int) := by omega
    have y2 : (i : Int) ≤ (l.length : Int) := by omega
    have y3 : (k : Int) ≤ (c : Int) := by omega
    have y4 : (k : Int) ≤ (l.length : Int) := by omega
    have y5 : (0 : Int) ≤ (k : Int) := by omega
    clear hx hbl hR1 hR2 hk
    go_enter Try.func26, Try.ntmps26
    go_wp2_with (go_at_call 9; refine (CA.out _ HV0.out).mono ?_; rintro e w1 ⟨rfl, hb1⟩; have HB1 := Go.Lib.hid (HB.out.trans (hb1.mono HB.out.size)); clear hb1 c0 c1)
    go_region_held3 (fun w' => Below w1.heap.size w1 w') (first | assumption | exact (Below.refl _ _).drew | exact Below.alloc (by assumption) (Below.size (by assumption)) _ | exact Below.drew (by assumption) | exact Below.refl _ _)
      (first
        | (refine step_append_row (by rfl) (.tmp 12) (.tmp 15) (by rfl) E w1.heap.size _ 0 [] (by rfl) ?_ _ i (ecells (l.take i)) (by rfl) ?_ (ones_e _) ?_ ?_ ?_ i (Nat.zero_add i) ?_
           · exact own_blk3 (by simp) (by simp only [heap_dr, heap_al, Array.getElem?_push]; simp)
           · exact HR1.out.keep (HB1.out.trans (Below.mono (by assumption) HB1.out.size))
           · unfold maxLen; omega
           · omega
           · simp; try omega
           intro A1 c1 w2 hown1 hg1 hat1 hb0
           have hb1 : Below w1.heap.size w1 w2 := Below.trans (by assumption) hb0
           clear hb0)
        | (refine step_append_row (by rfl) (.tmp 16) (.tmp 20) (by rfl) E w1.heap.size (.slice A1 i c1) i _ (by rfl) hown1 _ (l.length - k) (ecells (l.drop k)) (by rfl) ?_ (ones_e _) ?_ ?_ hb1.size (i + (l.length - k)) rfl ?_
           · exact HR2.out.keep (HB1.out.trans (hb1.mono HB1.out.size))
           · unfold maxLen; omega
           · omega
           intro A3 c3 w3 hown3 hg3 hat3 hb0
           have hb3 : Below w1.heap.size w1 w3 := Below.trans hb1 hb0
           clear hb0))
    all_goals go_wp2
    all_goals go_ret
    all_goals exact rows_end hown3 (by rw [List.length_append, List.length_take, List.length_drop]; omega) (by rw [ecells_append, List.nil_append]) HOK.out HE.out HB1.out hb3
end Go.Proofs.Ytpcahgnibdampaa.Tri
