/- The contract of the trie's Cut. -/
import Derived.Test.YtpcahgnibdampaaP27
import Derived.Test.YtpcahgnibdampaaP28
import Derived.Test.YtpcahgnibdampaaP23
import Derived.Test.YtpcahgnibdampaaP15
import Derived.Outline
import Derived.Deep.DeepCutAuto
import Derived.Deep.CutRange
import Derived.Deep.Cut
import Derived.Laws.Tables
import Derived.BigQuiet
import Derived.Deep.RegionHeld3
import Derived.Lib.QuietBelow
namespace Go.Proofs.Ytpcahgnibdampaa.Tri
open Go.RowKit Mem PR Pfx Oct
theorem hasno_cut {t : Tr} {p : Pf} (h : getE (ents t) p = none) : cutE (ents t) p = ents t := by
  have hn := get_none.1 h
  generalize ents t = l at *
  induction l with
  | nil => rfl
  | cons e l ih =>
    unfold cutE
    rw [if_neg (fun e2 => hn (List.mem_cons.2 (.inl e2.symm))), ih (by
      unfold getE at h ⊢
      rw [List.find?_cons] at h
      split at h
      · cases h
      · exact h) (fun hk => hn (List.mem_cons_of_mem _ hk))]
set_option maxRecDepth 100000 in
set_option maxHeartbeats 16000000 in
theorem cut_none {W : World} {tb : Nat} {m : MT} (p : Pf) (hp : p.ok) (hT : TreeM W tb m) (hw : WF (tr m)) (hf : Fit m) (hg : getE (ents (tr m)) p = none) :
    Calls Try.prog 25 #[.pointer (some ⟨tb, 0, none⟩), pV p] W (PutN W tb m (tr m) none) := by
  have hb := below_new W (.cells #[.int .u32 (p.a : Int), .int .i64 p.n] 25)
  obtain ⟨c0, c1⟩ := cells_two W (.int .u32 (p.a : Int)) (.int .i64 p.n) 25
  have CG := Go.Lib.hid (fun (w : World) (h : Below W.heap.size W w) => get_m p hp (Topped.of_tree (hT.below h)) hw)
  rw [told_is m p hw, hg] at CG
  have HB := Go.Lib.hid hb
  have HX := Go.Lib.hid (fun (w : World) (h : Below W.heap.size W w) => (⟨m, rfl, hT.below h, rfl, hf, Only.of h, fun k hk => .inl hk⟩ : PutN W tb m (tr m) none (.returned (.tuple #[.int .i64 0, .bool false])) w))
  clear hb hT hw hf hg
  unfold pV at *
  go_enter Try.func25, Try.ntmps25
  go_wp2_with (go_at_call 11; refine (CG.out _ HB.out).mono ?_; rintro e w1 ⟨rfl, hb1⟩; have B1 := Go.Lib.hid (Pfx.Below.tr HB.out hb1); clear hb1)
  go_ret2
  exact HX.out _ B1.out
theorem put_form (f : Fr) (m : MT) : ∃ x h c s t, f.put m = .node f.b f.q x h c s t := by
  unfold Fr.put
  split
  · exact ⟨_, _, _, _, _, rfl⟩
  · exact ⟨_, _, _, _, _, rfl⟩
theorem cnt_put_le {f : Fr} {a b : MT} {k : Nat} (h : cnt a k ≤ cnt b k) : cnt (f.put a) k ≤ cnt (f.put b) k := by rw [f.cnt_put, f.cnt_put]; omega
theorem cnt_plug_le {a b : MT} {k : Nat} (fs : List Fr) (h : cnt a k ≤ cnt b k) : cnt (plug fs a) k ≤ cnt (plug fs b) k := by rw [cnt_plug, cnt_plug]; omega
theorem end_some : ∀ (m : MT) (p : Pf) {v : Int}, told p (endM p m) = some v → ∃ b c s t, endM p m = .node b p v true c s t := by
  intro m p v h
  rcases nil_or (endM p m) with e | ⟨b, q, x, hh, c, s, t, e⟩
  · rw [e] at h; cases h
  · rw [e, told_node] at h
    split at h
    · rename_i he
      subst he
      cases hh with
      | false => cases h
      | true =>
        have h : some x = some v := h
        injection h with h
        rw [e, h]
        exact ⟨b, c, s, t, rfl⟩
    · cases h
set_option maxRecDepth 100000 in
set_option maxHeartbeats 16000000 in
theorem cut_some {W : World} {tb : Nat} {m : MT} (p : Pf) (hp : p.ok) (hT : TreeM W tb m) (hw : WF (tr m)) (hf : Fit m) (hl : (ents (tr m)).length ≤ 1000) (v : Int) (hg : getE (ents (tr m)) p = some v) (hgp : goodP p = true) :
    Calls Try.prog 25 #[.pointer (some ⟨tb, 0, none⟩), pV p] W (PutN W tb m (cutT (tr m) p) (some v)) := by
  obtain ⟨W1, hW1⟩ : ∃ W1, W.alloc (.cells #[.int .u32 (p.a : Int), .int .i64 p.n] 25) = W1 := ⟨_, rfl⟩
  have s1 : W1.heap.size = W.heap.size + 1 := by rw [← hW1]; simp
  have b1 : Below W.heap.size W W1 := by rw [← hW1]; exact below_new _ _
  have g0 : W1.heap[W.heap.size]? = some (.cells #[.int .u32 (p.a : Int), .int .i64 p.n] 25) := by rw [← hW1]; exact heap_alloc_new _ _
  have c0 : W1.cell? ⟨W.heap.size, 0, none⟩ = some (.int .u32 (p.a : Int)) := cell_at g0 rfl
  have c1 : W1.cell? ⟨W.heap.size, 1, none⟩ = some (.int .i64 p.n) := cell_at g0 rfl
  have CG := Go.Lib.hid (fun (w : World) (h : Below W.heap.size W w) => get_m p hp (Topped.of_tree (hT.below h)) hw)
  rw [told_is m p hw, hg] at CG
  have hgt : (getT (tr m) p).isSome = true := by rw [get_ents _ _ hw, hg]; rfl
  have hF := hT.low
  -- the tree behind the counting
  obtain ⟨M, hM⟩ : ∃ M, M = incM (-1) p m := ⟨_, rfl⟩
  have hwM : WF (tr M) := by rw [hM, tr_inc]; exact hw
  have hgM : (getT (tr M) p).isSome = true := by rw [hM, tr_inc]; exact hgt
  have hblk : ∀ k, Blks tb M k ↔ Blks tb m k := fun k => by unfold Blks; rw [hM, cnt_inc]
  have hend : told p (endM p M) = some v := by rw [get_end M p hwM hgp, hM, tr_inc, get_ents _ _ hw, hg]
  obtain ⟨b, c, s, t, he⟩ := end_some M p hend
  have hde : (down p [] M).2 = .node b p v true c s t := (down_end p M []).trans he
  have hpl := down_plug p M
  rw [hde] at hpl
  obtain ⟨fs, hfs⟩ : ∃ fs, fs = (down p [] M).1 := ⟨_, rfl⟩
  have hup := up_cut p M [] hwM (fun e => by rw [e] at hgM; cases hgM) hgM
  rw [hde, ← hfs] at hup
  have hup2 : upT fs (tidyM (.node b p 0 false c s t)) = cutM p M := by
    have h5 : (if wiM p M = true then plug [] (cutM p M) else upT [] (cutM p M)) = cutM p M := by split <;> rfl
    exact hup.trans h5
  have HTR := Go.Lib.hid (show tr (cutM p M) = cutT (tr m) p by rw [tr_cut p hgp M hwM hgM, hM, tr_inc])
  have HFI := Go.Lib.hid (show Fit (cutM p M) by rw [hM]; exact fit_cut p hgp m hf hw hgt)
  have hfsp : plug fs (.node b p v true c s t) = M := by rw [hfs]; exact hpl
  have CI := Go.Lib.hid (fun (w : World) (h : Below W.heap.size W w) => inc_any enters_cut counts_cut p hp (hT.below h) hw (cb_fit m hf hl))
  rw [← hM] at CI
  have hptr : ptr M = ptr m := by rw [hM]; exact ptr_inc _ _ _
  have CP := Go.Lib.hid (fun (w : World) (h : TreeM w tb M) => place_any p hp tb M w h (good_of_wf M hwM))
  rw [← hfs] at CP
  have HUP := Go.Lib.hid hup2
  have HFS := Go.Lib.hid hfsp
  have HBL := Go.Lib.hid hblk
  have HPT := Go.Lib.hid hptr
  have HLW := Go.Lib.hid hF
  have HB := Go.Lib.hid b1
  have S1 := Go.Lib.hid s1
  have HBX := Go.Lib.hid (fun (w : World) (h : Below W1.heap.size W1 w) => ((h.block _ (by omega)).trans g0 : w.heap[W.heap.size]? = some (.cells #[.int .u32 (p.a : Int), .int .i64 p.n] 25)))
  have HTT := Go.Lib.hid (fun (w : World) (h : Below W.heap.size W w) => hT.below h)
  clear hT hw hf hl hg hgt hF hM hwM hgM hblk hend he hde hpl hfs hup hup2 hfsp hptr b1 g0 hgp
  unfold pV at *
  go_enter Try.func25, Try.ntmps25
  go_upto_region 4 with (go_at_call 11; refine (CG.out _ HB.out).mono ?_; rintro e w1 ⟨rfl, hb1⟩; have B1 := Go.Lib.hid hb1; clear hb1)
  have HT1 := Go.Lib.hid (HTT.out w1 (Pfx.Below.tr HB.out B1.out))
  have HX1 := Go.Lib.hid (HBX.out w1 B1.out)
  have HSZ := Go.Lib.hid (show W.heap.size < w1.heap.size by have h1 := B1.out.size; have h2 := S1.out; omega)
  have HBW := Go.Lib.hid (Pfx.Below.tr HB.out B1.out)
  clear c0 c1 CG
  have HNB := Go.Lib.hid (show ¬ Blks tb m W.heap.size from fun hk => by have := HLW.out _ hk; omega)
  have HR := Go.Lib.hid (fun (w : World) (h : Below w1.heap.size w1 w) => (⟨cell_at (HT1.out.below h).1 rfl, (h.cell (p := ⟨W.heap.size, 0, none⟩) HSZ.out).trans (cell_at HX1.out rfl), (h.cell (p := ⟨W.heap.size, 1, none⟩) HSZ.out).trans (cell_at HX1.out rfl)⟩ : w.cell? ⟨tb, 0, none⟩ = some (ptr m) ∧ w.cell? ⟨W.heap.size, 0, none⟩ = some (.int .u32 (p.a : Int)) ∧ w.cell? ⟨W.heap.size, 1, none⟩ = some (.int .i64 p.n)))
  refine wp_region_noPanic ?_
  refine wp_region_held_drew (S := fun w' => w'.cell? ⟨tb, 0, none⟩ = some (ptr m) ∧ w'.cell? ⟨W.heap.size, 0, none⟩ = some (.int .u32 (p.a : Int)) ∧ w'.cell? ⟨W.heap.size, 1, none⟩ = some (.int .i64 p.n)) (by kernel_rfl) (HR.out _ (Below.refl _ _).drew) (fun hHeld => ?_)
  refine Take.tk 0 17 hHeld ?_
  refine Take.tk 1 18 hHeld ?_
  refine Take.tk 2 19 hHeld ?_
  try simp only [Act.put, Take.nm]
  refine Take.tk 3 20 hHeld ?_
  refine Take.tk 4 21 hHeld ?_
  try simp only [Act.put, Take.nm]
  refine wpAnyH_ready (rs := [5]) (by kernel_rfl) (by simp) ?_
  refine AllReadyH.cons (o := _) (by rfl) (fun K hK => ?_) AllReadyH.nil
  go_simp
  go_at_call 33
  refine (CI.out _ (HBW.out.trans ((Below.refl w1.heap.size w1).drew.mono HBW.out.size))).mono ?_
  rintro e w2 ⟨rfl, hT2, hO2⟩
  have HT2 := Go.Lib.hid hT2
  have HO2 := Go.Lib.hid (Only.trans (Only.of HBW.out) (Only.trans (Only.of (Below.refl w1.heap.size w1).drew) hO2) : Only (Blks tb m) W w2)
  have hbox := ((Only.trans (Only.of (Below.refl w1.heap.size w1).drew) hO2 : Only (Blks tb m) w1 w2).block W.heap.size HSZ.out HNB.out).trans HX1.out
  have HSZ2 := Go.Lib.hid (show W.heap.size < w2.heap.size from block_lt_of_cell (cell_at (i := 0) hbox rfl))
  have S2 : w2.cell? ⟨tb, 0, none⟩ = some (ptr m) ∧ w2.cell? ⟨W.heap.size, 0, none⟩ = some (.int .u32 (p.a : Int)) ∧ w2.cell? ⟨W.heap.size, 1, none⟩ = some (.int .i64 p.n) := ⟨(cell_at hT2.1 rfl).trans (by rw [← HPT.out]; rfl), cell_at hbox rfl, cell_at hbox rfl⟩
  clear hT2 hO2 hbox
  (try go_wp2_with fail)
  refine hK.out _ _ S2 (fun h1 => ?_)
  clear hK K hHeld
  try simp only [Act.put, Take.nm]
  refine wpAnyH_done (by kernel_rfl) ?_ _
  refine NoPanic.normal ?_
  clear S2
  obtain ⟨-, p0, p1⟩ := h1
  clear HT1 HX1 HSZ HBW HR CI HTT HBX HB
  obtain ⟨hb, hi, hE⟩ := here_form tb fs
  have HE := Go.Lib.hid hE
  rw [hE] at CP
  have HTP := Go.Lib.hid (fun (w : World) (h : TreeM w tb (plug fs (.node b p 0 false c s t))) => (by have := tidy_place h; rw [hE] at this; exact this : Calls Try.prog 48 #[.pointer (some ⟨hb, hi, none⟩)] w fun e w' => e = .returned (.tuple #[]) ∧ TreeM w' tb (plug fs (tidyM (.node b p 0 false c s t))) ∧ Only (Blks tb (plug fs (.node b p 0 false c s t))) w w'))
  have HSUB := Go.Lib.hid (show ∀ k, Blks tb (plug fs (.node b p 0 false c s t)) k → Blks tb m k from fun k hk => (HBL.out k).1 (hk.imp_right (fun h5 => by rw [← HFS.out, cnt_plug]; rw [cnt_plug] at h5; simpa only [cnt] using h5)))
  clear hE
  go_upto_region 8 with (first
    | (go_at_call 43; refine (CP.out w2 HT2.out).mono ?_; rintro e w3 ⟨rfl, hb3⟩; have B3 := Go.Lib.hid hb3; have HT3 := Go.Lib.hid (show TreeM w3 tb (plug fs (.node b p v true c s t)) by rw [HFS.out]; exact HT2.out.below hb3); have HN3 := Go.Lib.hid ((mt_plug fs _ w3).1 HT3.out.2.1).2.1; have a0 : w3.cell? ⟨hb, hi, none⟩ = some (.pointer (some ⟨b, 0, none⟩)) := (by have h5 := here_cell HT3.out; rw [HE.out] at h5; exact h5); clear hb3 p0 p1)
    | (go_at_call 47; refine (drop_any HN3.out).mono ?_; rintro e w4 ⟨rfl, hw4⟩; have HT4 := Go.Lib.hid (show TreeM w4 tb (plug fs (.node b p 0 false c s t)) by rw [hw4]; exact poke HT3.out (heap_set (i := 3) _ (heap_set (i := 2) _ HN3.out)) (fun k hk => (set_ne hk).trans (set_ne hk))); have HO4 := Go.Lib.hid (show Only (Blks tb m) W w4 by (rw [hw4]; have hbb : Blks tb m b := HSUB.out b (.inr (by rw [cnt_plug]; simp only [cnt, if_pos]; omega)); exact ((HO2.out.trans (Only.of B3.out)).set hbb _).set hbb _)); clear hw4 a0)
    | (go_at_call 48; refine (HTP.out w4 HT4.out).mono ?_; rintro e w5 ⟨rfl, hT5, hO5⟩; have HT5 := Go.Lib.hid hT5; have HO5 := Go.Lib.hid (HO4.out.trans (hO5.more HSUB.out)); clear hT5 hO5))
  have HCL := Go.Lib.hid (show ∀ k, cnt (tidyM (.node b p 0 false c s t)) k ≤ cnt (.node b p v true c s t) k from fun k => by have := cnt_tidy b p 0 false c s t k; simpa only [cnt] using this)
  rcases fs with _ | ⟨g, gs⟩
  · rw [show aboveV tb [] = .pointer none from rfl]
    go_wp2
    go_ret2
    refine ⟨_, rfl, HT5.out, by rw [← HTR.out, ← HUP.out]; rfl, by have h5 := HFI.out; rw [← HUP.out] at h5; exact h5, HO5.out, fun k hk => .inl ((HBL.out k).1 (hk.imp_right (fun h5 => ?_)))⟩
    rw [← HFS.out]
    exact Nat.lt_of_lt_of_le h5 (HCL.out k)
  · obtain ⟨hb2, hi2, hE2⟩ := here_form tb gs
    obtain ⟨x2, h2, c2, s2, t2, hpf⟩ := put_form g (tidyM (.node b p 0 false c s t))
    have HPF := Go.Lib.hid hpf
    have hT6 : TreeM w5 tb (plug gs (.node g.b g.q x2 h2 c2 s2 t2)) := by rw [← hpf]; exact HT5.out
    have CT2 := tidy_place hT6
    rw [hE2] at CT2
    have HCT2 := Go.Lib.hid CT2
    have HS2 := Go.Lib.hid (show ∀ k, cnt (plug gs (.node g.b g.q x2 h2 c2 s2 t2)) k ≤ cnt M k from fun k => by
      rw [← hpf, ← HFS.out]
      exact cnt_plug_le gs (cnt_put_le (HCL.out k)))
    rw [show aboveV tb (g :: gs) = .pointer (some (hereA tb gs)) from rfl, hE2]
    clear hT6 CT2 hE2 hpf
    go_wp2_with (go_at_call 48; refine HCT2.out.mono ?_; rintro e w6 ⟨rfl, hT7, hO7⟩; have HT7 := Go.Lib.hid hT7; have HO7 := Go.Lib.hid (HO5.out.trans (hO7.more (fun k hk => (HBL.out k).1 (hk.imp_right (fun h5 => Nat.lt_of_lt_of_le h5 (HS2.out k)))))); clear hT7 hO7)
    go_ret2
    have hfin : plug gs (tidyM (.node g.b g.q x2 h2 c2 s2 t2)) = cutM p M := by
      rw [← HUP.out]
      show _ = plug gs (tidyM (g.put _))
      rw [HPF.out]
    refine ⟨_, rfl, HT7.out, by rw [hfin]; exact HTR.out, by rw [hfin]; exact HFI.out, HO7.out, fun k hk => .inl ((HBL.out k).1 (hk.imp_right (fun h5 => ?_)))⟩
    refine Nat.lt_of_lt_of_le h5 (Nat.le_trans (cnt_plug_le gs (cnt_tidy _ _ _ _ _ _ _ k)) (HS2.out k))
end Go.Proofs.Ytpcahgnibdampaa.Tri
