/- The reference's At: where a prefix stands. The reference's Cut of rows; words for rows of three cells. The reference's Put of rows: a prefix that stands. -/
import Derived.Test.YtpcahgnibdampaaP05
import Derived.Outline
import Derived.BigQuiet
import Derived.Deep.RegionHeld3
import Derived.Laws.OwnMore
namespace Go.Proofs.Ytpcahgnibdampaa.Tri
open Go.RowKit Mem PR Pfx
def posE (l : List Ent) (p : Pf) : Option Nat := l.findIdx? fun e => decide (e.p = p)
def idxV : Option Nat → Int
  | some i => (i : Int)
  | none => -1
theorem pos_some {l : List Ent} {p : Pf} {i : Nat} {e : Ent} (h : l[i]? = some e) (hk : e.p = p) (hn : ∀ (j : Nat) (r : Ent), j < i → l[j]? = some r → r.p ≠ p) : posE l p = some i := by
  unfold posE
  rw [List.findIdx?_eq_some_iff_getElem]
  obtain ⟨hi, he⟩ := List.getElem?_eq_some_iff.1 h
  refine ⟨hi, by rw [he]; simpa using hk, fun j hj => ?_⟩
  have := hn j _ hj (List.getElem?_eq_getElem (by omega))
  simpa using this
theorem pos_none {l : List Ent} {p : Pf} (hn : ∀ (j : Nat) (r : Ent), l[j]? = some r → r.p ≠ p) : posE l p = none := by
  unfold posE
  rw [List.findIdx?_eq_none_iff]
  intro x hx
  obtain ⟨j, hj⟩ := List.getElem?_of_mem hx
  simpa using hn j x hj
theorem pos_stands {l : List Ent} {p : Pf} {i : Nat} (h : posE l p = some i) : StandsAt l p i := by
  unfold posE at h
  rw [List.findIdx?_eq_some_iff_getElem] at h
  obtain ⟨hi, h1, h2⟩ := h
  refine ⟨⟨l[i], List.getElem?_eq_getElem hi, by simpa using h1⟩, fun e he => ?_⟩
  obtain ⟨j, hj, rfl⟩ := List.mem_iff_getElem.1 he
  rw [List.length_take] at hj
  rw [List.getElem_take]
  simpa using h2 j (by omega)
theorem pos_no {l : List Ent} {p : Pf} (h : posE l p = none) : ∀ e ∈ l, e.p ≠ p := by
  unfold posE at h
  rw [List.findIdx?_eq_none_iff] at h
  exact fun e he => by simpa using h e he
theorem pf_apart {p q : Pf} (h : p ≠ q) : ((p.a : Int) == (q.a : Int)) = false ∨ p.a = q.a ∧ (p.n == q.n) = false := by
  by_cases ha : p.a = q.a
  · exact .inr ⟨ha, by simpa using fun e => h (pf_ext ha e)⟩
  · exact .inl (by simp; omega)
set_option maxRecDepth 100000 in
set_option maxHeartbeats 4000000 in
theorem at_any (v : Value) (l : List Ent) (p : Pf) (w : World) (hv : Rws w v l) :
    Calls Try.prog 9 #[v, pV p] w (Tells (.int .i64 (idxV (posE l p))) w) := by
  have HV := Go.Lib.hid hv
  obtain ⟨A, c, rfl, hlc, hc⟩ := hv.form
  obtain ⟨T, hT⟩ : ∃ T, T = idxV (posE l p) := ⟨_, rfl⟩
  rw [← hT]
  have HT := Go.Lib.hid hT
  obtain ⟨qa, qn⟩ := p
  unfold pV
  dsimp only
  have hb0 := below_new w (.cells #[.int .u32 (qa : Int), .int .i64 qn] 25)
  obtain ⟨c0, c1⟩ := cells_two w (.int .u32 (qa : Int)) (.int .i64 qn) 25
  have hlt0 : w.heap.size < (w.alloc (.cells #[.int .u32 (qa : Int), .int .i64 qn] 25)).heap.size := by simp
  have HB := Go.Lib.hid hb0
  clear hv hT hb0
  go_enter Try.func9, Try.ntmps9
  go_wp2
  generalize hw0 : w.alloc (.cells #[.int .u32 (qa : Int), .int .i64 qn] 25) = w0 at *
  go_loopw [5] (fun v5 wx => ∃ i : Nat, i ≤ l.length ∧ v5 = .int .i64 i ∧ Hid (∀ (j : Nat) (r : Ent), j < i → l[j]? = some r → r.p ≠ ⟨qa, qn⟩) ∧ Hid (Below w0.heap.size w0 wx)) (fun v5 _ => l.length - (intOf v5).toNat)
  case atStart => exact ⟨0, Nat.zero_le _, rfl, by unfold Hid; intro j r h; omega, Go.Lib.hid (Below.refl _ _)⟩
  case round =>
    obtain ⟨i, hi, rfl, hn, hb⟩ := hrel
    have d0 := (hb.out.cell (p := ⟨w.heap.size, 0, none⟩) hlt0).trans c0
    have d1 := (hb.out.cell (p := ⟨w.heap.size, 1, none⟩) hlt0).trans c1
    have HBB := Go.Lib.hid (HB.out.trans (hb.out.mono HB.out.size))
    by_cases hlt : i < l.length
    · obtain ⟨r, hr⟩ : ∃ r, l[i]? = some r := ⟨_, List.getElem?_eq_getElem hlt⟩
      obtain ⟨b, off, rfl, hbl, k0, k1, _⟩ := (HV.out).at_ hr
      have e0 := (HBB.out.cell (p := ⟨b, off + i * 3, none⟩) hbl).trans k0
      have e1 := (HBB.out.cell (p := ⟨b, off + i * 3 + 1, none⟩) hbl).trans k1
      have z0 : (0 : Int) ≤ (i : Int) := by omega
      have z1 : (i : Int) < (l.length : Int) := by omega
      by_cases he : r.p = ⟨qa, qn⟩
      · have HE := Go.Lib.hid (show T = (i : Int) by rw [HT.out, pos_some hr he hn.out]; rfl)
        rw [he] at e0 e1
        dsimp only at e0 e1
        clear hr k0 k1 he hbl
        go_wp2
        go_quiet (fail)
        go_wp2
        go_ret
        exact ⟨by rw [HE.out]; rfl, HBB.out.trans ((Mem.below_drewN _ _).mono HBB.out.size)⟩
      · have HN := Go.Lib.hid (show ∀ (j : Nat) (r : Ent), j < i + 1 → l[j]? = some r → r.p ≠ ⟨qa, qn⟩ from fun j r' hj hr' => by
          by_cases hji : j = i
          · subst hji
            rw [hr] at hr'
            injection hr' with hr'
            rw [← hr']; exact he
          · exact hn.out j r' (by omega) hr')
        have hap := pf_apart he
        obtain ⟨⟨ra, rn⟩, rv⟩ := r
        dsimp only at hap e0 e1
        clear hr k0 k1 he hbl
        rcases hap with y1 | ⟨rfl, y1⟩
        · go_wp2
          go_quiet (fail)
          go_wp2
          go_roundw
          case rel => exact ⟨i + 1, hlt, by go_num, HN, Go.Lib.hid (hb.out.trans ((Mem.below_drewN _ _).mono hb.out.size))⟩
          case measure => simp [intOf]; omega
        · go_wp2
          go_quiet (fail)
          go_wp2
          go_roundw
          case rel => exact ⟨i + 1, hlt, by go_num, HN, Go.Lib.hid (hb.out.trans ((Mem.below_drewN _ _).mono hb.out.size))⟩
          case measure => simp [intOf]; omega
    · have HE := Go.Lib.hid (show T = -1 by rw [HT.out, pos_none fun j r hr => hn.out j r (by have := (List.getElem?_eq_some_iff.1 hr).1; omega) hr]; rfl)
      have z1 : decide ((i : Int) < (l.length : Int)) = false := decide_eq_false (by omega)
      go_wp2
      go_ret
      exact ⟨by rw [HE.out]; rfl, HBB.out⟩
end Go.Proofs.Ytpcahgnibdampaa.Tri
namespace Go.Proofs.Ytpcahgnibdampaa.Tri
open Go.RowKit Mem PR Pfx
theorem elemE : ∃ i, IsElem Try.prog 28 40 3 24 i (.agg #[.int .u32 0, .int .i64 0, .int .i64 0]) := IsElem.mk_ Try.underlying28 (by kernel_rfl) rfl (by decide)
theorem own_blk3 {W : World} {base B : Nat} {t : TypeId} (hB : base ≤ B) (h : W.heap[B]? = some (.cells #[] t (0, 0))) : W.ownsRow base t 3 (.slice (some ⟨B, 0, none⟩) 0 0) 0 [] :=
  ⟨rfl, .inr ⟨B, 0, #[], rfl, hB, h, Nat.le_refl _, Nat.zero_le _, rfl, rfl⟩⟩
theorem one_blk3 {W : World} {B : Nat} {t : TypeId} {x y z : Value} (h : W.heap[B]? = some (.cells #[x, y, z] t (0, 0))) : Row W 3 (.slice (some ⟨B, 0, none⟩) 1 1) 1 [x, y, z] :=
  Row.of_own (base := 0) (e := t) ⟨rfl, .inr ⟨B, 1, #[x, y, z], rfl, Nat.zero_le _, h, Nat.le_refl _, by decide, rfl, rfl⟩⟩
theorem row_three (w : World) (a b c : Int) (t : TypeId) : Row (w.alloc (.cells #[.int .u32 a, .int .i64 b, .int .i64 c] t)) 3 (.slice (some ⟨w.heap.size, 0, none⟩) 1 1) 1 [.int .u32 a, .int .i64 b, .int .i64 c] := one_blk3 (heap_alloc_new _ _)
theorem ones_three (a b c : Int) : ∀ u ∈ [Value.int .u32 a, Value.int .i64 b, Value.int .i64 c], u.oneCell' = true := fun u hu => by
  simp only [List.mem_cons, List.not_mem_nil, or_false] at hu
  rcases hu with rfl | rfl | rfl <;> rfl
theorem cut3_at {w : World} {b off n c k : Nat} {cs : List Value} (h : Row w 3 (.slice (some ⟨b, off, none⟩) n c) n cs) (hk : k ≤ n) :
    Row w 3 (.slice (if c = k then some ⟨b, off, none⟩ else some ⟨b, off + k * 3, none⟩) (n - k) (c - k)) (n - k) (cs.drop (k * 3)) := by
  have := h.cut hk
  have e : (if c = k then some (⟨b, off, none⟩ : Addr) else (some (⟨b, off, none⟩ : Addr)).map (·.add (k * 3))) = if c = k then some ⟨b, off, none⟩ else some ⟨b, off + k * 3, none⟩ := by
    split
    · rfl
    · simp only [Option.map]
      unfold Addr.add
      split
      · rename_i h0; rw [h0]; rfl
      · rfl
  rwa [e] at this
def RowsF (v0 : Value) (l : List Ent) (w : World) (e : Ending) (w' : World) : Prop :=
  ∃ v, e = .returned v ∧ Rws w' v l ∧ (v = v0 ∨ ∀ g, v.ownBlock = some g → w.heap.size ≤ g ∧ g < w'.heap.size) ∧ Below w.heap.size w w'
theorem rows_end {w w' w3 : World} {v v0 : Value} {l m : List Ent} {n : Nat} {cs : List Value} {t : TypeId} (hown : w3.ownsRow w'.heap.size t 3 v n cs) (hn : n = m.length) (hc : cs = ecells m) (he : Eoks m) (hm : m = l) (hb : Below w.heap.size w w') (hb2 : Below w'.heap.size w' w3) : RowsF v0 l w (.returned v) w3 := by
  subst hm hn hc
  exact ⟨v, rfl, Rws.of_own hown he, .inr fun g hg => ⟨Nat.le_trans hb.size (hown.lt g hg).1, (hown.lt g hg).2⟩, hb.trans (hb2.mono hb.size)⟩
set_option maxRecDepth 100000 in
set_option maxHeartbeats 8000000 in
theorem rcut_any (v : Value) (l : List Ent) (p : Pf) (w : World) (hv : Rws w v l) (hl : l.length ≤ 1000) :
    Calls Try.prog 26 #[v, pV p] w (RowsF v (cutE l p) w) := by
  obtain ⟨i0, E⟩ := elemE
  have HV := Go.Lib.hid hv
  have CA := Go.Lib.hid (fun (W : World) (h : Rws W v l) => at_any v l p W h)
  obtain ⟨A, c, rfl, hlc, hc⟩ := hv.form
  obtain ⟨R, hR⟩ : ∃ R, R = cutE l p := ⟨_, rfl⟩
  rw [← hR]
  have HR := Go.Lib.hid hR
  obtain ⟨i, hi⟩ : ∃ i, i = posE l p := ⟨_, rfl⟩
  rw [← hi] at CA
  have HI := Go.Lib.hid hi
  obtain ⟨qa, qn⟩ := p
  unfold pV at CA ⊢
  dsimp only at CA ⊢
  have hb0 := below_new w (.cells #[.int .u32 (qa : Int), .int .i64 qn] 25)
  obtain ⟨c0, c1⟩ := cells_two w (.int .u32 (qa : Int)) (.int .i64 qn) 25
  have HB := Go.Lib.hid hb0
  have HV0 := Go.Lib.hid (hv.keep hb0)
  clear hv hR hb0 hi
  rcases i with _ | i
  · have HE := Go.Lib.hid (show R = l by rw [HR.out]; exact cut_no l _ (pos_no HI.out.symm))
    simp only [idxV] at CA
    go_enter Try.func26, Try.ntmps26
    go_wp2_with (go_at_call 9; refine (CA.out _ HV0.out).mono ?_; rintro e w1 ⟨rfl, hb1⟩; have HB1 := Go.Lib.hid (HB.out.trans (hb1.mono HB.out.size)); clear hb1)
    go_ret
    exact ⟨_, rfl, by rw [HE.out]; exact HV.out.keep HB1.out, .inl rfl, HB1.out⟩
  · have hst := pos_stands HI.out.symm
    obtain ⟨⟨x, hx, _⟩, _⟩ := hst
    have hil := (List.getElem?_eq_some_iff.1 hx).1
    obtain ⟨bl, off, rfl, hbl, _, _, _⟩ := (HV.out).at_ hx
    have HE := Go.Lib.hid (show l.take i ++ l.drop (i + 1) = R by rw [HR.out]; exact (cut_at l _ i (pos_stands HI.out.symm)).symm)
    have HOK := Go.Lib.hid (show Eoks (l.take i ++ l.drop (i + 1)) from fun e he => HV.out.2 e ((List.mem_append.1 he).elim List.mem_of_mem_take List.mem_of_mem_drop))
    simp only [idxV] at CA
    obtain ⟨k, hk⟩ : ∃ k, k = i + 1 := ⟨_, rfl⟩
    have HK := Go.Lib.hid hk
    rw [← hk] at HE HOK
    have hR1 := (HV.out).1.prefix_ (k := i) (by omega)
    rw [ecells_take] at hR1
    have hR2 := cut3_at (HV.out).1 (k := k) (by omega)
    rw [ecells_drop] at hR2
    have HR1 := Go.Lib.hid hR1
    have HR2 := Go.Lib.hid hR2
    have z0 : (0 : Int) ≤ (i : Int) := by omega
    have zn : decide ((i : Int) < 0) = false := decide_eq_false (by omega)
    have zk : IntKind.i64.wrap ((i : Int) + 1) = (k : Int) := by rw [IntKind.wrap_i64]; omega
    have y1 : (i : Int) ≤ (c : Int) := by omega
    have y2 : (i : Int) ≤ (l.length : Int) := by omega
    have y3 : (k : Int) ≤ (c : Int) := by omega
    have y4 : (k : Int) ≤ (l.length : Int) := by omega
    have y5 : (0 : Int) ≤ (k : Int) := by omega
    clear hx hbl hR1 hR2 hk
    go_enter Try.func26, Try.ntmps26
    go_wp2_with (go_at_call 9; refine (CA.out _ HV0.out).mono ?_; rintro e w1 ⟨rfl, hb1⟩; have HB1 := Go.Lib.hid (HB.out.trans (hb1.mono HB.out.size)); clear hb1 c0 c1)
    go_region_held3 (fun w' => Below w1.heap.size w1 w') (first | assumption | exact (Below.refl _ _).drew | exact Below.alloc (by assumption) (Below.size (by assumption)) _ | exact Below.drew (by assumption) | exact Below.refl _ _)
      (first
        | (refine step_append_row (by rfl) (.tmp 12) (.tmp 15) (by rfl) E w1.heap.size _ 0 [] (by rfl) ?_ _ i (ecells (l.take i)) (by rfl) ?_ (ones_e _) ?_ ?_ ?_ i (Nat.zero_add i) ?_
           · exact own_blk3 (by simp) (by simp only [heap_dr, heap_al, Array.getElem?_push]; simp)
           · exact HR1.out.keep (HB1.out.trans (Below.mono (by assumption) HB1.out.size))
           · unfold maxLen; omega
           · omega
           · simp; try omega
           intro A1 c1 w2 hown1 hg1 hat1 hb0
           have hb1 : Below w1.heap.size w1 w2 := Below.trans (by assumption) hb0
           clear hb0)
        | (refine step_append_row (by rfl) (.tmp 16) (.tmp 20) (by rfl) E w1.heap.size (.slice A1 i c1) i _ (by rfl) hown1 _ (l.length - k) (ecells (l.drop k)) (by rfl) ?_ (ones_e _) ?_ ?_ hb1.size (i + (l.length - k)) rfl ?_
           · exact HR2.out.keep (HB1.out.trans (hb1.mono HB1.out.size))
           · unfold maxLen; omega
           · omega
           intro A3 c3 w3 hown3 hg3 hat3 hb0
           have hb3 : Below w1.heap.size w1 w3 := Below.trans hb1 hb0
           clear hb0))
    all_goals go_wp2
    all_goals go_ret
    all_goals exact rows_end hown3 (by rw [List.length_append, List.length_take, List.length_drop]; omega) (by rw [ecells_append, List.nil_append]) HOK.out HE.out HB1.out hb3
end Go.Proofs.Ytpcahgnibdampaa.Tri
namespace Go.Proofs.Ytpcahgnibdampaa.Tri
open Go.RowKit Mem PR Pfx
theorem ecells_set : ∀ (l : List Ent) (i : Nat) (r : Ent) (x : Int), l[i]? = some r → ecells (l.set i ⟨r.p, x⟩) = (ecells l).set (i * 3 + 2) (.int .i64 x)
  | [], i, r, x, h => by simp at h
  | y :: l, 0, r, x, h => by
    obtain rfl : y = r := by simpa using h
    simp [ecells_cons, ecell]
  | y :: l, i + 1, r, x, h => by
    have ih := ecells_set l i r x (by simpa using h)
    rw [List.set_cons_succ, ecells_cons, ih, ecells_cons]
    rw [show (i + 1) * 3 + 2 = (ecell y).length + (i * 3 + 2) by simp [ecell]; omega, List.set_append_right _ _ (by omega)]
    simp
set_option maxHeartbeats 8000000 in
set_option maxRecDepth 100000 in
theorem rput_old (v : Value) (l : List Ent) (p : Pf) (x : Int) (i : Nat) (w : World) (hv : Rws w v l) (hn : posE l p = some i) (ho : Ord l) (hx : (Lit.int .i64 x).wf = true) (hl : l.length ≤ 1000) :
    Calls Try.prog 28 #[v, pV p, .int .i64 x] w (RowsF v (putE l p x) w) := by
  obtain ⟨i0, E⟩ := elemE
  have HV := Go.Lib.hid hv
  have CA := Go.Lib.hid (fun (W : World) (h : Rws W v l) => at_any v l p W h)
  rw [hn] at CA
  have hst := pos_stands hn
  have HP := Go.Lib.hid (put_at l p x i ho hst)
  obtain ⟨⟨r, hr, hrp⟩, _⟩ := hst
  have hil := (List.getElem?_eq_some_iff.1 hr).1
  have HS := Go.Lib.hid (show ecells (putE l p x) = (ecells l).set (i * 3 + 2) (.int .i64 x) by rw [HP.out, ← ecells_set l i r x hr, hrp])
  have HL := Go.Lib.hid (show (putE l p x).length = l.length by rw [HP.out, List.length_set])
  have hpk : p.ok := hrp ▸ (hv.2 r (List.mem_of_getElem? hr)).1
  have HK := Go.Lib.hid (eoks_put l p x hv.2 ⟨hpk, hx⟩)
  have hcu : (ecells l)[i * 3 + 2]? = some (.int .i64 r.v) := ecells_at i l r hr 2 _ rfl
  have HCU := Go.Lib.hid hcu
  obtain ⟨A, c, rfl, hlc, hc⟩ := hv.form
  generalize putE l p x = R at *
  generalize r.v = rv at *
  obtain ⟨qa, qn⟩ := p
  unfold pV at CA ⊢
  dsimp only at CA ⊢
  have hb0 := below_new w (.cells #[.int .u32 (qa : Int), .int .i64 qn] 25)
  obtain ⟨c0, c1⟩ := cells_two w (.int .u32 (qa : Int)) (.int .i64 qn) 25
  have HB := Go.Lib.hid hb0
  have HV0 := Go.Lib.hid (hv.keep hb0)
  simp only [idxV] at CA
  have g0 : decide ((0 : Int) ≤ (i : Int)) = true := by simp
  have z0 : (0 : Int) ≤ (i : Int) := by omega
  have z1 : (i : Int) < (l.length : Int) := by omega
  clear hn hv hr hcu hrp hb0 hpk
  go_enter Try.func28, Try.ntmps28
  go_wp2_with (first
    | (go_at_call 9; refine (CA.out _ HV0.out).mono ?_; rintro e w1 ⟨rfl, hb1⟩; have HB1 := Go.Lib.hid (HB.out.trans (hb1.mono HB.out.size)); have HO0 := Go.Lib.hid (World.ownsRow_lit (base := w1.heap.size) (e := 40) (size := 3) w1 #[] 0 (Nat.le_refl _) (Nat.zero_le _) rfl); have HBA := Go.Lib.hid (HB1.out.alloc HB1.out.size (.cells #[] 40)); have HR0 := Go.Lib.hid (HV.out.1.keep HBA.out); clear hb1)
    | (at_builtin; refine wpList_append_row rfl (.tmp 15) (.tmp 16) rfl E w1.heap.size _ 0 [] rfl HO0.out _ l.length (ecells l) rfl HR0.out (ones_e l) ?_ ?_ ?_ l.length (Nat.zero_add _) ?_; (· unfold maxLen; omega); (· omega); (· simp); intro A1 c1 w2 hown1 hg1 hat1 hb1; rw [List.nil_append] at hown1; obtain ⟨g, cap, e1, hgb, hgs⟩ := hown1.form (by omega); injection e1 with e1 _ e3; subst e1 e3; have HO1 := Go.Lib.hid hown1; have q1 : w2.cell? ⟨g, i * 3 + 2, none⟩ = some (.int .i64 rv) := (hown1.cellAt _ (by omega)).trans HCU.out; have f1 := hown1.frozenAt (i * 3 + 2); have HB2 := Go.Lib.hid (((Below.refl _ w1).alloc (Nat.le_refl _) (.cells #[] 40)).trans hb1); clear hown1 hg1 hat1 hb1))
  go_ret
  have hs1 := (HO1.out.stored (i * 3 + 2) (.int .i64 x)).1
  have hb2 := HB2.out.setCell (p := ⟨g, i * 3 + 2, none⟩) hgb (.int .i64 x)
  exact ⟨_, rfl, Rws.of_own (by rw [HS.out, HL.out]; exact hs1) HK.out, .inr fun g hg => ⟨Nat.le_trans HB1.out.size (hs1.lt g hg).1, (hs1.lt g hg).2⟩, HB1.out.trans (hb2.mono HB1.out.size)⟩
end Go.Proofs.Ytpcahgnibdampaa.Tri
