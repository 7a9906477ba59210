/- The reference's Put of rows: a prefix that stands. -/
import Derived.Test.YtpcahgnibdampaaTriCutR
import Derived.Laws.OwnMore
namespace Go.Proofs.Ytpcahgnibdampaa.Tri
open Go.RowKit Mem PR Pfx

theorem ecells_set : ∀ (l : List Ent) (i : Nat) (r : Ent) (x : Int), l[i]? = some r → ecells (l.set i ⟨r.p, x⟩) = (ecells l).set (i * 3 + 2) (.int .i64 x)
  | [], i, r, x, h => by simp at h
  | y :: l, 0, r, x, h => by
    obtain rfl : y = r := by simpa using h
    simp [ecells_cons, ecell]
  | y :: l, i + 1, r, x, h => by
    have ih := ecells_set l i r x (by simpa using h)
    rw [List.set_cons_succ, ecells_cons, ih, ecells_cons]
    rw [show (i + 1) * 3 + 2 = (ecell y).length + (i * 3 + 2) by simp [ecell]; omega, List.set_append_right _ _ (by omega)]
    simp
set_option maxHeartbeats 8000000 in
set_option maxRecDepth 100000 in
theorem rput_old (v : Value) (l : List Ent) (p : Pf) (x : Int) (i : Nat) (w : World) (hv : Rws w v l) (hn : posE l p = some i) (ho : Ord l) (hx : (Lit.int .i64 x).wf = true) (hl : l.length ≤ 1000) :
    Calls Try.prog 28 #[v, pV p, .int .i64 x] w (RowsF v (putE l p x) w) := by
  obtain ⟨i0, E⟩ := elemE
  have HV := Go.Lib.hid hv
  have CA := Go.Lib.hid (fun (W : World) (h : Rws W v l) => at_any v l p W h)
  rw [hn] at CA
  have hst := pos_stands hn
  have HP := Go.Lib.hid (put_at l p x i ho hst)
  obtain ⟨⟨r, hr, hrp⟩, _⟩ := hst
  have hil := (List.getElem?_eq_some_iff.1 hr).1
  have HS := Go.Lib.hid (show ecells (putE l p x) = (ecells l).set (i * 3 + 2) (.int .i64 x) by rw [HP.out, ← ecells_set l i r x hr, hrp])
  have HL := Go.Lib.hid (show (putE l p x).length = l.length by rw [HP.out, List.length_set])
  have hpk : p.ok := hrp ▸ (hv.2 r (List.mem_of_getElem? hr)).1
  have HK := Go.Lib.hid (eoks_put l p x hv.2 ⟨hpk, hx⟩)
  have hcu : (ecells l)[i * 3 + 2]? = some (.int .i64 r.v) := ecells_at i l r hr 2 _ rfl
  have HCU := Go.Lib.hid hcu
  obtain ⟨A, c, rfl, hlc, hc⟩ := hv.form
  generalize putE l p x = R at *
  generalize r.v = rv at *
  obtain ⟨qa, qn⟩ := p
  unfold pV at CA ⊢
  dsimp only at CA ⊢
  have hb0 := below_new w (.cells #[.int .u32 (qa : Int), .int .i64 qn] 25)
  obtain ⟨c0, c1⟩ := cells_two w (.int .u32 (qa : Int)) (.int .i64 qn) 25
  have HB := Go.Lib.hid hb0
  have HV0 := Go.Lib.hid (hv.keep hb0)
  simp only [idxV] at CA
  have g0 : decide ((0 : Int) ≤ (i : Int)) = true := by simp
  have z0 : (0 : Int) ≤ (i : Int) := by omega
  have z1 : (i : Int) < (l.length : Int) := by omega
  clear hn hv hr hcu hrp hb0 hpk
  go_enter Try.func28, Try.ntmps28
  go_wp2_with (first
    | (go_at_call 9; refine (CA.out _ HV0.out).mono ?_; rintro e w1 ⟨rfl, hb1⟩; have HB1 := Go.Lib.hid (HB.out.trans (hb1.mono HB.out.size)); have HO0 := Go.Lib.hid (World.ownsRow_lit (base := w1.heap.size) (e := 40) (size := 3) w1 #[] 0 (Nat.le_refl _) (Nat.zero_le _) rfl); have HBA := Go.Lib.hid (HB1.out.alloc HB1.out.size (.cells #[] 40)); have HR0 := Go.Lib.hid (HV.out.1.keep HBA.out); clear hb1)
    | (at_builtin; refine wpList_append_row rfl (.tmp 15) (.tmp 16) rfl E w1.heap.size _ 0 [] rfl HO0.out _ l.length (ecells l) rfl HR0.out (ones_e l) ?_ ?_ ?_ l.length (Nat.zero_add _) ?_; (· unfold maxLen; omega); (· omega); (· simp); intro A1 c1 w2 hown1 hg1 hat1 hb1; rw [List.nil_append] at hown1; obtain ⟨g, cap, e1, hgb, hgs⟩ := hown1.form (by omega); injection e1 with e1 _ e3; subst e1 e3; have HO1 := Go.Lib.hid hown1; have q1 : w2.cell? ⟨g, i * 3 + 2, none⟩ = some (.int .i64 rv) := (hown1.cellAt _ (by omega)).trans HCU.out; have f1 := hown1.frozenAt (i * 3 + 2); have HB2 := Go.Lib.hid (((Below.refl _ w1).alloc (Nat.le_refl _) (.cells #[] 40)).trans hb1); clear hown1 hg1 hat1 hb1))
  go_ret
  have hs1 := (HO1.out.stored (i * 3 + 2) (.int .i64 x)).1
  have hb2 := HB2.out.setCell (p := ⟨g, i * 3 + 2, none⟩) hgb (.int .i64 x)
  exact ⟨_, rfl, Rws.of_own (by rw [HS.out, HL.out]; exact hs1) HK.out, .inr fun g hg => ⟨Nat.le_trans HB1.out.size (hs1.lt g hg).1, (hs1.lt g hg).2⟩, HB1.out.trans (hb2.mono HB1.out.size)⟩
end Go.Proofs.Ytpcahgnibdampaa.Tri
