/- The contract of the trie's Put. -/
import Derived.Test.YtpcahgnibdampaaP26
import Derived.Test.YtpcahgnibdampaaP15
import Derived.Outline
import Derived.Deep.DeepCutAuto
import Derived.Deep.CutRange
import Derived.Deep.Cut
import Derived.Laws.Tables
import Derived.BigQuiet
import Derived.Deep.RegionHeld3
import Derived.Lib.QuietBelow
namespace Go.Proofs.Ytpcahgnibdampaa.Tri
open Go.RowKit Mem PR Pfx Oct
def PutN (W : World) (tb : Nat) (m : MT) (T : Tr) (o : Option Int) (e : Ending) (W' : World) : Prop :=
  ∃ m2, e = .returned (.tuple #[.int .i64 (o.getD 0), .bool o.isSome]) ∧ TreeM W' tb m2 ∧ tr m2 = T ∧ Fit m2 ∧ Only (Blks tb m) W W' ∧ ∀ k, Blks tb m2 k → Blks tb m k ∨ W.heap.size ≤ k
set_option maxRecDepth 100000 in
set_option maxHeartbeats 16000000 in
theorem put_bad {W : World} {tb : Nat} {m : MT} (p : Pf) (x : Int) (hp : p.ok) (hT : TreeM W tb m) (hw : WF (tr m)) (hf : Fit m) (hg : goodP p = false) :
    Calls Try.prog 24 #[.pointer (some ⟨tb, 0, none⟩), pV p, .int .i64 x] W (PutN W tb m (tr m) (getE (ents (tr m)) p) ) := by
  have hb := below_new W (.cells #[.int .u32 (p.a : Int), .int .i64 p.n] 25)
  obtain ⟨c0, c1⟩ := cells_two W (.int .u32 (p.a : Int)) (.int .i64 p.n) 25
  have CG := Go.Lib.hid (fun w => good_any p.a p.n hp.1 w)
  have e : goodB p.a p.n = goodP p := rfl
  rw [e, hg] at CG
  have HE := Go.Lib.hid (get_bad hg hw)
  have HB := Go.Lib.hid hb
  have HX := Go.Lib.hid (fun (w : World) (h : Below W.heap.size W w) => (⟨m, rfl, hT.below h, rfl, hf, Only.of h, fun k hk => .inl hk⟩ : PutN W tb m (tr m) none (.returned (.tuple #[.int .i64 0, .bool false])) w))
  clear hb e hT hw hf hg
  unfold pV
  go_enter Try.func24, Try.ntmps24
  go_wp2_with (go_at_call 40; refine (CG.out _).mono ?_; rintro e w1 ⟨rfl, hb1⟩; have B1 := Go.Lib.hid (Pfx.Below.tr HB.out hb1); clear hb1)
  go_ret2
  rw [HE.out]
  exact HX.out _ B1.out
set_option maxRecDepth 100000 in
set_option maxHeartbeats 16000000 in
theorem put_good {W : World} {tb : Nat} {m : MT} (p : Pf) (x : Int) (hp : p.ok) (hT : TreeM W tb m) (hw : WF (tr m)) (hf : Fit m) (hl : (ents (tr m)).length ≤ 1000) (hg : goodP p = true) :
    Calls Try.prog 24 #[.pointer (some ⟨tb, 0, none⟩), pV p, .int .i64 x] W (PutN W tb m (putT (tr m) p x) (getE (ents (tr m)) p)) := by
  obtain ⟨W1, hW1⟩ : ∃ W1, W.alloc (.cells #[.int .u32 (p.a : Int), .int .i64 p.n] 25) = W1 := ⟨_, rfl⟩
  have s1 : W1.heap.size = W.heap.size + 1 := by rw [← hW1]; simp
  have b1 : Below W.heap.size W W1 := by rw [← hW1]; exact below_new _ _
  have g0 : W1.heap[W.heap.size]? = some (.cells #[.int .u32 (p.a : Int), .int .i64 p.n] 25) := by rw [← hW1]; exact heap_alloc_new _ _
  have c0 : W1.cell? ⟨W.heap.size, 0, none⟩ = some (.int .u32 (p.a : Int)) := cell_at g0 rfl
  have c1 : W1.cell? ⟨W.heap.size, 1, none⟩ = some (.int .i64 p.n) := cell_at g0 rfl
  have CG := Go.Lib.hid (fun w => good_any p.a p.n hp.1 w)
  have e : goodB p.a p.n = goodP p := rfl
  rw [e, hg] at CG
  have HG := Go.Lib.hid hg
  have HT := Go.Lib.hid hT
  have HW := Go.Lib.hid hw
  have HF := Go.Lib.hid hf
  have HL := Go.Lib.hid hl
  have HP := Go.Lib.hid hp
  have HB := Go.Lib.hid b1
  have S1 := Go.Lib.hid s1
  have HBX := Go.Lib.hid (fun (w : World) (h : Below W1.heap.size W1 w) => ((h.block _ (by omega)).trans g0 : w.heap[W.heap.size]? = some (.cells #[.int .u32 (p.a : Int), .int .i64 p.n] 25)))
  have CP := Go.Lib.hid (fun (w : World) (h : Below W1.heap.size W1 w) => place_any p hp tb m w (hT.below (Pfx.Below.tr b1 h)) (good_of_wf m hw))
  obtain ⟨hb, hi, hE⟩ := here_form tb (down p [] m).1
  have HE := Go.Lib.hid hE
  rw [hE] at CP
  obtain ⟨AV, hAV⟩ : ∃ AV, AV = aboveV tb (down p [] m).1 := ⟨_, rfl⟩
  rw [← hAV] at CP
  have HH := Go.Lib.hid (fun (w : World) (h : Below W.heap.size W w) => (by
    have h2 : TreeM w tb (plug (down p [] m).1 (down p [] m).2) := by rw [down_plug]; exact hT.below h
    have h3 := here_cell h2
    have h4 := here_froz h2
    rw [hE] at h3 h4
    exact ⟨h3, h4⟩ : At w hb hi (ptr (down p [] m).2)))
  have HQ := Go.Lib.hid (show Mt W (down p [] m).2 ∧ GoodM (down p [] m).2 from by
    have h1 := hT.2.1
    have h2 := good_of_wf m hw
    rw [← down_plug p m] at h1 h2
    exact ⟨((mt_plug _ _ _).1 h1).2, good_plug _ _ h2⟩)
  have hend := get_end m p hw hg
  rw [get_ents _ _ hw] at hend
  obtain ⟨o, ho⟩ : ∃ o, o = getE (ents (tr m)) p := ⟨_, rfl⟩
  rw [← ho] at hend ⊢
  have HEND := Go.Lib.hid hend
  clear hE hAV e hT hw hf hl hg b1 g0 hend ho
  unfold pV at *
  go_enter Try.func24, Try.ntmps24
  go_upto_region 5 with (first
    | (go_at_call 40; refine (CG.out _).mono ?_; rintro e w1 ⟨rfl, hb1⟩; have B1 := Go.Lib.hid hb1; replace c0 := (hb1.cell (p := ⟨W.heap.size, 0, none⟩) (show W.heap.size < W1.heap.size by omega)).trans c0; replace c1 := (hb1.cell (p := ⟨W.heap.size, 1, none⟩) (show W.heap.size < W1.heap.size by omega)).trans c1; clear hb1)
    | (go_at_call 43; refine (CP.out _ B1.out).mono ?_; rintro e w2 ⟨rfl, hb2⟩; have B2 := Go.Lib.hid (B1.out.trans (hb2.mono B1.out.size)); have HC2 := Go.Lib.hid (HBX.out _ B2.out); have a0 := (HH.out w2 (Pfx.Below.tr HB.out B2.out)).1; clear hb2 c0 c1))
  have HBW2 := Go.Lib.hid (Pfx.Below.tr HB.out B2.out)
  have HSW2 := Go.Lib.hid (show W.heap.size < w2.heap.size by have h1 := B2.out.size; have h2 := S1.out; omega)
  have e0 : w2.cell? ⟨W.heap.size, 0, none⟩ = some (.int .u32 (p.a : Int)) := cell_at HC2.out rfl
  have e1 : w2.cell? ⟨W.heap.size, 1, none⟩ = some (.int .i64 p.n) := cell_at HC2.out rfl
  have HCI := Go.Lib.hid (fun (w : World) (h : Below W.heap.size W w) (hno : ∀ b q x h c s t, (down p [] m).2 = .node b q x h c s t → q ≠ p ∧ wiP q p = false) => ins_any (w := w) p (down p [] m).2 (HH.out w h) (HQ.out.1.keep (fun k hk => h.block k (HQ.out.1.low k hk))) HQ.out.2 HG.out HP.out.1 hno)
  unfold pV at HCI
  have hwi := fun b q x h c s t (e : (down p [] m).2 = .node b q x h c s t) => end_wi p m ((down_end p m []).symm.trans e)
  obtain ⟨S, hS⟩ : ∃ S, (down p [] m).2 = S := ⟨_, rfl⟩
  have HSS := Go.Lib.hid hS
  rw [hS] at hwi HH HQ HCI a0 ⊢
  clear hS CP CG HH a0
  rcases nil_or S with hn | ⟨b, q, xx, h, c, s, t, hn⟩
  · have CI0 := HCI.out
    have HNO := Go.Lib.hid (show told p S = none by rw [hn]; rfl)
    have HWI := Go.Lib.hid (show ∀ b q x h c s t, S = .node b q x h c s t → q ≠ p ∧ wiP q p = false from fun b q x h c s t e => by rw [hn] at e; cases e)
    have CI := Go.Lib.hid (fun (w : World) (h : Below W.heap.size W w) => CI0 w h HWI.out)
    rw [hn, show ptr .nil = .pointer none from rfl]
    clear hn hwi CI0 HCI HQ HC2
    go_wp2_with fail
    refine wp_region_quiet_below (by kernel_rfl) (by kernel_rfl) ?_
    repeat (first | go_big_quiet_step (fail) | quiet_step (fail))
    refine wpQuiet_nil ?_
    intro _ hw'
    obtain ⟨⟨dq, osq⟩, hw''⟩ := hw'
    subst hw''
    have HQQ := Go.Lib.hid (below_regrown w2 dq osq)
    have HBW := Go.Lib.hid (Pfx.Below.tr HBW2.out HQQ.out)
    have HSW := Go.Lib.hid (Nat.lt_of_lt_of_le HSW2.out HQQ.out.size)
    have HBX2 := Go.Lib.hid (HBX.out _ (B2.out.trans (HQQ.out.mono B2.out.size)))
    generalize Go.Sort.grow (redrawn w2 dq) osq = w3 at *
    clear e0 e1
    have e0 : w3.cell? ⟨W.heap.size, 0, none⟩ = some (.int .u32 (p.a : Int)) := cell_at HBX2.out rfl
    have e1 : w3.cell? ⟨W.heap.size, 1, none⟩ = some (.int .i64 p.n) := cell_at HBX2.out rfl
    go_upto_region 7 with (go_at_call 44; (with_reducible refine (CI.out w3 HBW.out).mono ?_); rintro e w7 ⟨b1, b2, W9, rfl, q1, q2, q3, q4, q5, hw7⟩; have hmid := mid_new x HT.out HE.out HBW.out HSW.out HBX2.out q1 q2 q3 q4 (by rw [HSS.out]; exact q5) (by rw [← down_end p m [], HSS.out]; exact HNO.out) (fun b q x0 h0 c s t e => (HWI.out b q x0 h0 c s t (HSS.out.symm.trans e)).1); rw [HSS.out, ← hw7] at hmid; have HMID := Go.Lib.hid hmid; have HSZ := Go.Lib.hid (show W.heap.size < w7.heap.size by have h1 := q4.size; have h2 := HSW.out; rw [hw7]; simp [World.setCell]; omega); clear hw7 q1 q2 q3 q4 q5 hmid e0 e1)
    generalize hbn : b1 = bn at *
    clear hbn
    obtain ⟨fs, cc, ss, tt, v1, v2, hT7, hput, hnew⟩ := HMID.out.ex
    have hnd7 := ((mt_plug fs _ _).1 hT7.2.1).2.1
    obtain ⟨-, -, a2, a3, -, -, -⟩ := hnd7.cells
    have k0 := cell_regrown a2
    have k1 := cell_regrown a3
    have HPUT := Go.Lib.hid hput
    have HNEW := Go.Lib.hid hnew
    have HT7 := Go.Lib.hid hT7
    clear hT7 hput hnew hnd7 a2 a3
    go_wp2_with fail
    refine wp_region_quiet_below (by kernel_rfl) (by kernel_rfl) ?_
    repeat (first | go_big_quiet_step (fail) | quiet_step (fail))
    refine wpQuiet_nil ?_
    intro _ hw'
    obtain ⟨⟨dq, osq⟩, hw''⟩ := hw'
    subst hw''
    have HQ8 := Go.Lib.hid (below_regrown w7 dq osq)
    have HT8 := Go.Lib.hid (HT7.out.below HQ8.out)
    have HM8 := Go.Lib.hid (HMID.out.keep HSZ.out HQ8.out)
    have HSZ8 := Go.Lib.hid (Nat.lt_of_lt_of_le HSZ.out HQ8.out.size)
    generalize Go.Sort.grow (redrawn w7 dq) osq = w8 at *
    clear k0 k1
    have hnd8 : Nd w8 bn p 0 false cc (ptr ss) (ptr tt) := ((mt_plug fs _ _).1 HT8.out.2.1).2.1
    obtain ⟨-, -, a2, a3, -, -, -⟩ := hnd8.cells
    have f2 := frozen_of_row w8 bn 2 _ _ hnd8
    have f3 := frozen_of_row w8 bn 3 _ _ hnd8
    have HN9 := Go.Lib.hid (show Nd ((w8.setCell ⟨bn, 2, none⟩ (.int .i64 x)).setCell ⟨bn, 3, none⟩ (.bool true)) bn p x true cc (ptr ss) (ptr tt) from heap_set (i := 3) _ (heap_set (i := 2) _ hnd8))
    have HO9 := Go.Lib.hid (show ∀ k, k ≠ bn → ((w8.setCell ⟨bn, 2, none⟩ (.int .i64 x)).setCell ⟨bn, 3, none⟩ (.bool true)).heap[k]? = w8.heap[k]? from fun k hk => (set_ne hk).trans (set_ne hk))
    have HT9 := Go.Lib.hid (poke HT8.out HN9.out HO9.out)
    have hbl : 0 < cnt (plug fs (.node bn p 0 false cc ss tt)) bn := by rw [cnt_plug]; simp only [cnt, if_pos]; omega
    have HON9 := Go.Lib.hid (show Only (Blks tb m) W ((w8.setCell ⟨bn, 2, none⟩ (.int .i64 x)).setCell ⟨bn, 3, none⟩ (.bool true)) from
      only_grow (G := fun k => k = bn) HM8.out.only (((Only.refl (fun k => k = bn) w8).set rfl _).set rfl _) (fun k hk => by rw [hk]; exact (HNEW.out bn hbl).imp_right Nat.le_of_lt))
    have HX9 := Go.Lib.hid ((HO9.out W.heap.size (fun e => HM8.out.bn e.symm)).trans HM8.out.box)
    have HNW9 := Go.Lib.hid (show ∀ k, Blks tb (plug fs (.node bn p x true cc ss tt)) k → Blks tb m k ∨ W.heap.size ≤ k from fun k hk => hk.elim (fun e => .inl (.inl e)) (fun hc => (HNEW.out k (by rw [cnt_plug] at hc ⊢; simpa only [cnt] using hc)).imp_right Nat.le_of_lt))
    have HNB := Go.Lib.hid (show ¬ Blks tb (plug fs (.node bn p x true cc ss tt)) W.heap.size from fun hk => by
      rcases hk with hk | hk
      · have := HT.out.low tb (.inl rfl); omega
      · rcases HNEW.out _ (by rw [cnt_plug] at hk ⊢; simpa only [cnt] using hk) with h5 | h5
        · have := HT.out.low _ h5; omega
        · omega)
    have HTR := Go.Lib.hid (show tr (plug fs (.node bn p x true cc ss tt)) = putT (tr m) p x by rw [HPUT.out]; exact tr_put v1 v2 p x HG.out HP.out.1 m HW.out)
    have hoo := HEND.out
    rw [HMID.out.told] at hoo
    have hge := get_end m p HW.out HG.out
    rw [HMID.out.told] at hge
    have hzz := HMID.out.zero
    have HOO := Go.Lib.hid hoo
    have HGE := Go.Lib.hid hge
    have HZZ := Go.Lib.hid hzz
    clear hnd8 hbl hoo hge hzz HT8 HM8 HT7 HMID HNEW
    have HFI := Go.Lib.hid (show Fit (incM 1 p (plug fs (.node bn p x true cc ss tt))) by rw [HPUT.out]; exact fit_new v1 v2 p x HG.out HP.out.1 m HF.out HW.out (by rw [← HGE.out]; rfl))
    have HCB := Go.Lib.hid (show CB (plug fs (.node bn p x true cc ss tt)) by rw [HPUT.out]; exact cb_put v1 v2 p x m (cb_fit m HF.out HL.out))
    have HWF := Go.Lib.hid (show WF (tr (plug fs (.node bn p x true cc ss tt))) by rw [HTR.out]; exact (put_wf (tr m) p x HW.out ⟨HG.out, HP.out.1⟩).1)
    go_upto_region 9 with fail
    generalize (w8.setCell ⟨bn, 2, none⟩ (.int .i64 x)).setCell ⟨bn, 3, none⟩ (.bool true) = w9 at *
    clear a2 a3 f2 f3
    obtain ⟨M, hM⟩ : ∃ M, M = plug fs (.node bn p x true cc ss tt) := ⟨_, rfl⟩
    rw [← hM] at HT9 HTR HFI HCB HWF HNW9 HNB
    have CO := Go.Lib.hid (fun (w : World) (h : Below w9.heap.size w9 w) => inc_any enters_put counts_put p HP.out (HT9.out.below h) HWF.out HCB.out)
    have HR := Go.Lib.hid (fun (w : World) (h : Below w9.heap.size w9 w) => (⟨cell_at (HT9.out.below h).1 rfl, (h.cell (p := ⟨W.heap.size, 0, none⟩) (show W.heap.size < w9.heap.size from block_lt_of_cell (cell_at (i := 0) HX9.out rfl))).trans (cell_at HX9.out rfl), (h.cell (p := ⟨W.heap.size, 1, none⟩) (show W.heap.size < w9.heap.size from block_lt_of_cell (cell_at (i := 0) HX9.out rfl))).trans (cell_at HX9.out rfl)⟩ : w.cell? ⟨tb, 0, none⟩ = some (ptr M) ∧ w.cell? ⟨W.heap.size, 0, none⟩ = some (.int .u32 (p.a : Int)) ∧ w.cell? ⟨W.heap.size, 1, none⟩ = some (.int .i64 p.n)))
    have hxx := HZZ.out (by simp)
    have HXX := Go.Lib.hid hxx
    clear hM hxx
    unfold pV at CO
    go_wp2_with fail
    refine wp_region_noPanic ?_
    refine wp_region_held_drew (S := fun w' => w'.cell? ⟨tb, 0, none⟩ = some (ptr M) ∧ w'.cell? ⟨W.heap.size, 0, none⟩ = some (.int .u32 (p.a : Int)) ∧ w'.cell? ⟨W.heap.size, 1, none⟩ = some (.int .i64 p.n)) (by kernel_rfl) (HR.out _ (Below.refl _ _).drew) (fun hHeld => ?_)
    refine Take.tk 0 58 hHeld ?_
    refine Take.tk 1 59 hHeld ?_
    refine Take.tk 2 60 hHeld ?_
    try simp only [Act.put, Take.nm]
    refine Take.tk 3 61 hHeld ?_
    refine Take.tk 4 62 hHeld ?_
    try simp only [Act.put, Take.nm]
    refine wpAnyH_ready (rs := [5]) (by kernel_rfl) (by simp) ?_
    refine AllReadyH.cons (o := _) (by rfl) (fun K hK => ?_) AllReadyH.nil
    go_simp
    go_at_call 33
    refine (CO.out _ (Below.refl _ _).drew).mono ?_
    rintro e w10 ⟨rfl, hT10, hO10⟩
    have HT10 := Go.Lib.hid hT10
    have HO10 := Go.Lib.hid (Only.trans (Only.of (Below.refl w9.heap.size w9).drew) hO10 : Only (Blks tb M) w9 w10)
    have hbox := (HO10.out.block W.heap.size (block_lt_of_cell (cell_at (i := 0) HX9.out rfl)) HNB.out).trans HX9.out
    have S10 : w10.cell? ⟨tb, 0, none⟩ = some (ptr M) ∧ w10.cell? ⟨W.heap.size, 0, none⟩ = some (.int .u32 (p.a : Int)) ∧ w10.cell? ⟨W.heap.size, 1, none⟩ = some (.int .i64 p.n) := ⟨(cell_at hT10.1 rfl).trans (by rw [← ptr_inc 1 p M]; rfl), cell_at hbox rfl, cell_at hbox rfl⟩
    clear hT10 hO10 hbox
    (try go_wp2_with fail)
    refine hK.out _ _ S10 (fun h1 => ?_)
    clear hK K
    try simp only [Act.put, Take.nm]
    refine wpAnyH_done (by kernel_rfl) ?_ _
    refine NoPanic.normal ?_
    go_wp2
    go_ret2
    exact ⟨_, (by rw [← HOO.out]; first | rfl | (rw [HXX.out]; rfl)), HT10.out, by rw [tr_inc]; exact HTR.out, HFI.out, only_grow HON9.out HO10.out HNW9.out, fun k hk => HNW9.out k (hk.imp_right (fun h5 => by rw [cnt_inc] at h5; exact h5))⟩
  · have hnd : Nd w2 b q xx h c (ptr s) (ptr t) := by
      have h5 : Mt w2 S := HQ.out.1.keep (fun k hk => HBW2.out.block k (HQ.out.1.low k hk))
      rw [hn] at h5
      exact h5.1
    obtain ⟨d0, d1, -⟩ := hnd.cells
    have k0 := cell_regrown d0
    have k1 := cell_regrown d1
    have k2 := cell_regrown e0
    have k3 := cell_regrown e1
    by_cases he : q = p
    · have he2 : p = q := he.symm
      subst he2
      have HS0 := Go.Lib.hid (show (down p [] m).2 = .node b p xx h c s t from HSS.out.trans hn)
      rw [hn, show ptr (.node b p xx h c s t) = .pointer (some ⟨b, 0, none⟩) from rfl]
      clear hnd hn hwi HCI HQ HC2 he
      go_wp2_with fail
      refine wp_region_quiet_below (by kernel_rfl) (by kernel_rfl) ?_
      repeat (first | go_big_quiet_step (fail) | quiet_step (fail))
      refine wpQuiet_nil ?_
      intro _ hw'
      obtain ⟨⟨dq, osq⟩, hw''⟩ := hw'
      subst hw''
      have HQQ := Go.Lib.hid (below_regrown w2 dq osq)
      have HBW := Go.Lib.hid (Pfx.Below.tr HBW2.out HQQ.out)
      have HSW := Go.Lib.hid (Nat.lt_of_lt_of_le HSW2.out HQQ.out.size)
      have HBX2 := Go.Lib.hid (HBX.out _ (B2.out.trans (HQQ.out.mono B2.out.size)))
      generalize Go.Sort.grow (redrawn w2 dq) osq = w7 at *
      clear e0 e1 k0 k1 k2 k3 d0 d1
      have HMID := Go.Lib.hid (mid_old x HT.out HF.out HS0.out HBW.out HBX2.out)
      have HSZ := HSW
      clear HS0
      go_upto_region 7 with fail
      cases h with
      | true =>
        generalize hbn : b = bn at *
        clear hbn
        obtain ⟨fs, cc, ss, tt, v1, v2, hT7, hput, hnew⟩ := HMID.out.ex
        have hnd7 := ((mt_plug fs _ _).1 hT7.2.1).2.1
        obtain ⟨-, -, a2, a3, -, -, -⟩ := hnd7.cells
        have k0 := cell_regrown a2
        have k1 := cell_regrown a3
        have HPUT := Go.Lib.hid hput
        have HNEW := Go.Lib.hid hnew
        have HT7 := Go.Lib.hid hT7
        clear hT7 hput hnew hnd7 a2 a3
        go_wp2_with fail
        refine wp_region_quiet_below (by kernel_rfl) (by kernel_rfl) ?_
        repeat (first | go_big_quiet_step (fail) | quiet_step (fail))
        refine wpQuiet_nil ?_
        intro _ hw'
        obtain ⟨⟨dq, osq⟩, hw''⟩ := hw'
        subst hw''
        have HQ8 := Go.Lib.hid (below_regrown w7 dq osq)
        have HT8 := Go.Lib.hid (HT7.out.below HQ8.out)
        have HM8 := Go.Lib.hid (HMID.out.keep HSZ.out HQ8.out)
        have HSZ8 := Go.Lib.hid (Nat.lt_of_lt_of_le HSZ.out HQ8.out.size)
        generalize Go.Sort.grow (redrawn w7 dq) osq = w8 at *
        clear k0 k1
        have hnd8 : Nd w8 bn p xx true cc (ptr ss) (ptr tt) := ((mt_plug fs _ _).1 HT8.out.2.1).2.1
        obtain ⟨-, -, a2, a3, -, -, -⟩ := hnd8.cells
        have f2 := frozen_of_row w8 bn 2 _ _ hnd8
        have f3 := frozen_of_row w8 bn 3 _ _ hnd8
        have HN9 := Go.Lib.hid (show Nd ((w8.setCell ⟨bn, 2, none⟩ (.int .i64 x)).setCell ⟨bn, 3, none⟩ (.bool true)) bn p x true cc (ptr ss) (ptr tt) from heap_set (i := 3) _ (heap_set (i := 2) _ hnd8))
        have HO9 := Go.Lib.hid (show ∀ k, k ≠ bn → ((w8.setCell ⟨bn, 2, none⟩ (.int .i64 x)).setCell ⟨bn, 3, none⟩ (.bool true)).heap[k]? = w8.heap[k]? from fun k hk => (set_ne hk).trans (set_ne hk))
        have HT9 := Go.Lib.hid (poke HT8.out HN9.out HO9.out)
        have hbl : 0 < cnt (plug fs (.node bn p xx true cc ss tt)) bn := by rw [cnt_plug]; simp only [cnt, if_pos]; omega
        have HON9 := Go.Lib.hid (show Only (Blks tb m) W ((w8.setCell ⟨bn, 2, none⟩ (.int .i64 x)).setCell ⟨bn, 3, none⟩ (.bool true)) from
          only_grow (G := fun k => k = bn) HM8.out.only (((Only.refl (fun k => k = bn) w8).set rfl _).set rfl _) (fun k hk => by rw [hk]; exact (HNEW.out bn hbl).imp_right Nat.le_of_lt))
        have HX9 := Go.Lib.hid ((HO9.out W.heap.size (fun e => HM8.out.bn e.symm)).trans HM8.out.box)
        have HNW9 := Go.Lib.hid (show ∀ k, Blks tb (plug fs (.node bn p x true cc ss tt)) k → Blks tb m k ∨ W.heap.size ≤ k from fun k hk => hk.elim (fun e => .inl (.inl e)) (fun hc => (HNEW.out k (by rw [cnt_plug] at hc ⊢; simpa only [cnt] using hc)).imp_right Nat.le_of_lt))
        have HNB := Go.Lib.hid (show ¬ Blks tb (plug fs (.node bn p x true cc ss tt)) W.heap.size from fun hk => by
          rcases hk with hk | hk
          · have := HT.out.low tb (.inl rfl); omega
          · rcases HNEW.out _ (by rw [cnt_plug] at hk ⊢; simpa only [cnt] using hk) with h5 | h5
            · have := HT.out.low _ h5; omega
            · omega)
        have HTR := Go.Lib.hid (show tr (plug fs (.node bn p x true cc ss tt)) = putT (tr m) p x by rw [HPUT.out]; exact tr_put v1 v2 p x HG.out HP.out.1 m HW.out)
        have hoo := HEND.out
        rw [HMID.out.told] at hoo
        have hge := get_end m p HW.out HG.out
        rw [HMID.out.told] at hge
        have hzz := HMID.out.zero
        have HOO := Go.Lib.hid hoo
        have HGE := Go.Lib.hid hge
        have HZZ := Go.Lib.hid hzz
        clear hnd8 hbl hoo hge hzz HT8 HM8 HT7 HMID HNEW
        have HFI := Go.Lib.hid (show Fit (plug fs (.node bn p x true cc ss tt)) by rw [HPUT.out]; exact fit_set v1 v2 p x HG.out HP.out.1 m HF.out HW.out (by rw [← HGE.out]; rfl))
        go_upto_region 9 with fail
        generalize (w8.setCell ⟨bn, 2, none⟩ (.int .i64 x)).setCell ⟨bn, 3, none⟩ (.bool true) = w9 at *
        clear a2 a3 f2 f3
        go_wp2
        go_ret2
        exact ⟨_, by rw [← HOO.out]; rfl, HT9.out, HTR.out, HFI.out, HON9.out, HNW9.out⟩
      | false =>
        generalize hbn : b = bn at *
        clear hbn
        obtain ⟨fs, cc, ss, tt, v1, v2, hT7, hput, hnew⟩ := HMID.out.ex
        have hnd7 := ((mt_plug fs _ _).1 hT7.2.1).2.1
        obtain ⟨-, -, a2, a3, -, -, -⟩ := hnd7.cells
        have k0 := cell_regrown a2
        have k1 := cell_regrown a3
        have HPUT := Go.Lib.hid hput
        have HNEW := Go.Lib.hid hnew
        have HT7 := Go.Lib.hid hT7
        clear hT7 hput hnew hnd7 a2 a3
        go_wp2_with fail
        refine wp_region_quiet_below (by kernel_rfl) (by kernel_rfl) ?_
        repeat (first | go_big_quiet_step (fail) | quiet_step (fail))
        refine wpQuiet_nil ?_
        intro _ hw'
        obtain ⟨⟨dq, osq⟩, hw''⟩ := hw'
        subst hw''
        have HQ8 := Go.Lib.hid (below_regrown w7 dq osq)
        have HT8 := Go.Lib.hid (HT7.out.below HQ8.out)
        have HM8 := Go.Lib.hid (HMID.out.keep HSZ.out HQ8.out)
        have HSZ8 := Go.Lib.hid (Nat.lt_of_lt_of_le HSZ.out HQ8.out.size)
        generalize Go.Sort.grow (redrawn w7 dq) osq = w8 at *
        clear k0 k1
        have hnd8 : Nd w8 bn p xx false cc (ptr ss) (ptr tt) := ((mt_plug fs _ _).1 HT8.out.2.1).2.1
        obtain ⟨-, -, a2, a3, -, -, -⟩ := hnd8.cells
        have f2 := frozen_of_row w8 bn 2 _ _ hnd8
        have f3 := frozen_of_row w8 bn 3 _ _ hnd8
        have HN9 := Go.Lib.hid (show Nd ((w8.setCell ⟨bn, 2, none⟩ (.int .i64 x)).setCell ⟨bn, 3, none⟩ (.bool true)) bn p x true cc (ptr ss) (ptr tt) from heap_set (i := 3) _ (heap_set (i := 2) _ hnd8))
        have HO9 := Go.Lib.hid (show ∀ k, k ≠ bn → ((w8.setCell ⟨bn, 2, none⟩ (.int .i64 x)).setCell ⟨bn, 3, none⟩ (.bool true)).heap[k]? = w8.heap[k]? from fun k hk => (set_ne hk).trans (set_ne hk))
        have HT9 := Go.Lib.hid (poke HT8.out HN9.out HO9.out)
        have hbl : 0 < cnt (plug fs (.node bn p xx false cc ss tt)) bn := by rw [cnt_plug]; simp only [cnt, if_pos]; omega
        have HON9 := Go.Lib.hid (show Only (Blks tb m) W ((w8.setCell ⟨bn, 2, none⟩ (.int .i64 x)).setCell ⟨bn, 3, none⟩ (.bool true)) from
          only_grow (G := fun k => k = bn) HM8.out.only (((Only.refl (fun k => k = bn) w8).set rfl _).set rfl _) (fun k hk => by rw [hk]; exact (HNEW.out bn hbl).imp_right Nat.le_of_lt))
        have HX9 := Go.Lib.hid ((HO9.out W.heap.size (fun e => HM8.out.bn e.symm)).trans HM8.out.box)
        have HNW9 := Go.Lib.hid (show ∀ k, Blks tb (plug fs (.node bn p x true cc ss tt)) k → Blks tb m k ∨ W.heap.size ≤ k from fun k hk => hk.elim (fun e => .inl (.inl e)) (fun hc => (HNEW.out k (by rw [cnt_plug] at hc ⊢; simpa only [cnt] using hc)).imp_right Nat.le_of_lt))
        have HNB := Go.Lib.hid (show ¬ Blks tb (plug fs (.node bn p x true cc ss tt)) W.heap.size from fun hk => by
          rcases hk with hk | hk
          · have := HT.out.low tb (.inl rfl); omega
          · rcases HNEW.out _ (by rw [cnt_plug] at hk ⊢; simpa only [cnt] using hk) with h5 | h5
            · have := HT.out.low _ h5; omega
            · omega)
        have HTR := Go.Lib.hid (show tr (plug fs (.node bn p x true cc ss tt)) = putT (tr m) p x by rw [HPUT.out]; exact tr_put v1 v2 p x HG.out HP.out.1 m HW.out)
        have hoo := HEND.out
        rw [HMID.out.told] at hoo
        have hge := get_end m p HW.out HG.out
        rw [HMID.out.told] at hge
        have hzz := HMID.out.zero
        have HOO := Go.Lib.hid hoo
        have HGE := Go.Lib.hid hge
        have HZZ := Go.Lib.hid hzz
        clear hnd8 hbl hoo hge hzz HT8 HM8 HT7 HMID HNEW
        have HFI := Go.Lib.hid (show Fit (incM 1 p (plug fs (.node bn p x true cc ss tt))) by rw [HPUT.out]; exact fit_new v1 v2 p x HG.out HP.out.1 m HF.out HW.out (by rw [← HGE.out]; rfl))
        have HCB := Go.Lib.hid (show CB (plug fs (.node bn p x true cc ss tt)) by rw [HPUT.out]; exact cb_put v1 v2 p x m (cb_fit m HF.out HL.out))
        have HWF := Go.Lib.hid (show WF (tr (plug fs (.node bn p x true cc ss tt))) by rw [HTR.out]; exact (put_wf (tr m) p x HW.out ⟨HG.out, HP.out.1⟩).1)
        go_upto_region 9 with fail
        generalize (w8.setCell ⟨bn, 2, none⟩ (.int .i64 x)).setCell ⟨bn, 3, none⟩ (.bool true) = w9 at *
        clear a2 a3 f2 f3
        obtain ⟨M, hM⟩ : ∃ M, M = plug fs (.node bn p x true cc ss tt) := ⟨_, rfl⟩
        rw [← hM] at HT9 HTR HFI HCB HWF HNW9 HNB
        have CO := Go.Lib.hid (fun (w : World) (h : Below w9.heap.size w9 w) => inc_any enters_put counts_put p HP.out (HT9.out.below h) HWF.out HCB.out)
        have HR := Go.Lib.hid (fun (w : World) (h : Below w9.heap.size w9 w) => (⟨cell_at (HT9.out.below h).1 rfl, (h.cell (p := ⟨W.heap.size, 0, none⟩) (show W.heap.size < w9.heap.size from block_lt_of_cell (cell_at (i := 0) HX9.out rfl))).trans (cell_at HX9.out rfl), (h.cell (p := ⟨W.heap.size, 1, none⟩) (show W.heap.size < w9.heap.size from block_lt_of_cell (cell_at (i := 0) HX9.out rfl))).trans (cell_at HX9.out rfl)⟩ : w.cell? ⟨tb, 0, none⟩ = some (ptr M) ∧ w.cell? ⟨W.heap.size, 0, none⟩ = some (.int .u32 (p.a : Int)) ∧ w.cell? ⟨W.heap.size, 1, none⟩ = some (.int .i64 p.n)))
        have hxx := HZZ.out (by simp)
        have HXX := Go.Lib.hid hxx
        clear hM hxx
        unfold pV at CO
        go_wp2_with fail
        refine wp_region_noPanic ?_
        refine wp_region_held_drew (S := fun w' => w'.cell? ⟨tb, 0, none⟩ = some (ptr M) ∧ w'.cell? ⟨W.heap.size, 0, none⟩ = some (.int .u32 (p.a : Int)) ∧ w'.cell? ⟨W.heap.size, 1, none⟩ = some (.int .i64 p.n)) (by kernel_rfl) (HR.out _ (Below.refl _ _).drew) (fun hHeld => ?_)
        refine Take.tk 0 58 hHeld ?_
        refine Take.tk 1 59 hHeld ?_
        refine Take.tk 2 60 hHeld ?_
        try simp only [Act.put, Take.nm]
        refine Take.tk 3 61 hHeld ?_
        refine Take.tk 4 62 hHeld ?_
        try simp only [Act.put, Take.nm]
        refine wpAnyH_ready (rs := [5]) (by kernel_rfl) (by simp) ?_
        refine AllReadyH.cons (o := _) (by rfl) (fun K hK => ?_) AllReadyH.nil
        go_simp
        go_at_call 33
        refine (CO.out _ (Below.refl _ _).drew).mono ?_
        rintro e w10 ⟨rfl, hT10, hO10⟩
        have HT10 := Go.Lib.hid hT10
        have HO10 := Go.Lib.hid (Only.trans (Only.of (Below.refl w9.heap.size w9).drew) hO10 : Only (Blks tb M) w9 w10)
        have hbox := (HO10.out.block W.heap.size (block_lt_of_cell (cell_at (i := 0) HX9.out rfl)) HNB.out).trans HX9.out
        have S10 : w10.cell? ⟨tb, 0, none⟩ = some (ptr M) ∧ w10.cell? ⟨W.heap.size, 0, none⟩ = some (.int .u32 (p.a : Int)) ∧ w10.cell? ⟨W.heap.size, 1, none⟩ = some (.int .i64 p.n) := ⟨(cell_at hT10.1 rfl).trans (by rw [← ptr_inc 1 p M]; rfl), cell_at hbox rfl, cell_at hbox rfl⟩
        clear hT10 hO10 hbox
        (try go_wp2_with fail)
        refine hK.out _ _ S10 (fun h1 => ?_)
        clear hK K
        try simp only [Act.put, Take.nm]
        refine wpAnyH_done (by kernel_rfl) ?_ _
        refine NoPanic.normal ?_
        go_wp2
        go_ret2
        exact ⟨_, (by rw [← HOO.out]; first | rfl | (rw [HXX.out]; rfl)), HT10.out, by rw [tr_inc]; exact HTR.out, HFI.out, only_grow HON9.out HO10.out HNW9.out, fun k hk => HNW9.out k (hk.imp_right (fun h5 => by rw [cnt_inc] at h5; exact h5))⟩
    · have HNO := Go.Lib.hid (show told p S = none by rw [hn, told_node, if_neg he])
      have HWI := Go.Lib.hid (show ∀ b q x h c s t, S = .node b q x h c s t → q ≠ p ∧ wiP q p = false from fun b2 q2 x2 h2 c2 s2 t2 e => ⟨by rw [hn] at e; injection e with _ e2; rw [← e2]; exact he, hwi _ _ _ _ _ _ _ e⟩)
      have CI0 := HCI.out
      have CI := Go.Lib.hid (fun (w : World) (h : Below W.heap.size W w) => CI0 w h HWI.out)
      have hap := pf_apart he
      rw [hn, show ptr (.node b q xx h c s t) = .pointer (some ⟨b, 0, none⟩) from rfl]
      clear hnd hn hwi CI0 HCI HQ HC2 he
      rcases hap with y1 | ⟨y0', y1⟩
      all_goals
        try have y0 : ((q.a : Int) == (p.a : Int)) = true := by rw [y0']; simp
        try clear y0'
        go_wp2_with fail
        refine wp_region_quiet_below (by kernel_rfl) (by kernel_rfl) ?_
        repeat (first | go_big_quiet_step (fail) | quiet_step (fail))
        refine wpQuiet_nil ?_
        intro _ hw'
        obtain ⟨⟨dq, osq⟩, hw''⟩ := hw'
        subst hw''
        have HQQ := Go.Lib.hid (below_regrown w2 dq osq)
        have HBW := Go.Lib.hid (Pfx.Below.tr HBW2.out HQQ.out)
        have HSW := Go.Lib.hid (Nat.lt_of_lt_of_le HSW2.out HQQ.out.size)
        have HBX2 := Go.Lib.hid (HBX.out _ (B2.out.trans (HQQ.out.mono B2.out.size)))
        generalize Go.Sort.grow (redrawn w2 dq) osq = w3 at *
        clear e0 e1 k0 k1 k2 k3 d0 d1
        try clear y0
        clear y1
        have e0 : w3.cell? ⟨W.heap.size, 0, none⟩ = some (.int .u32 (p.a : Int)) := cell_at HBX2.out rfl
        have e1 : w3.cell? ⟨W.heap.size, 1, none⟩ = some (.int .i64 p.n) := cell_at HBX2.out rfl
        go_upto_region 7 with (go_at_call 44; (with_reducible refine (CI.out w3 HBW.out).mono ?_); rintro e w7 ⟨b1, b2, W9, rfl, q1, q2, q3, q4, q5, hw7⟩; have hmid := mid_new x HT.out HE.out HBW.out HSW.out HBX2.out q1 q2 q3 q4 (by rw [HSS.out]; exact q5) (by rw [← down_end p m [], HSS.out]; exact HNO.out) (fun b q x0 h0 c s t e => (HWI.out b q x0 h0 c s t (HSS.out.symm.trans e)).1); rw [HSS.out, ← hw7] at hmid; have HMID := Go.Lib.hid hmid; have HSZ := Go.Lib.hid (show W.heap.size < w7.heap.size by have h1 := q4.size; have h2 := HSW.out; rw [hw7]; simp [World.setCell]; omega); clear hw7 q1 q2 q3 q4 q5 hmid e0 e1)
        generalize hbn : b1 = bn at *
        clear hbn
        obtain ⟨fs, cc, ss, tt, v1, v2, hT7, hput, hnew⟩ := HMID.out.ex
        have hnd7 := ((mt_plug fs _ _).1 hT7.2.1).2.1
        obtain ⟨-, -, a2, a3, -, -, -⟩ := hnd7.cells
        have k0 := cell_regrown a2
        have k1 := cell_regrown a3
        have HPUT := Go.Lib.hid hput
        have HNEW := Go.Lib.hid hnew
        have HT7 := Go.Lib.hid hT7
        clear hT7 hput hnew hnd7 a2 a3
        go_wp2_with fail
        refine wp_region_quiet_below (by kernel_rfl) (by kernel_rfl) ?_
        repeat (first | go_big_quiet_step (fail) | quiet_step (fail))
        refine wpQuiet_nil ?_
        intro _ hw'
        obtain ⟨⟨dq, osq⟩, hw''⟩ := hw'
        subst hw''
        have HQ8 := Go.Lib.hid (below_regrown w7 dq osq)
        have HT8 := Go.Lib.hid (HT7.out.below HQ8.out)
        have HM8 := Go.Lib.hid (HMID.out.keep HSZ.out HQ8.out)
        have HSZ8 := Go.Lib.hid (Nat.lt_of_lt_of_le HSZ.out HQ8.out.size)
        generalize Go.Sort.grow (redrawn w7 dq) osq = w8 at *
        clear k0 k1
        have hnd8 : Nd w8 bn p 0 false cc (ptr ss) (ptr tt) := ((mt_plug fs _ _).1 HT8.out.2.1).2.1
        obtain ⟨-, -, a2, a3, -, -, -⟩ := hnd8.cells
        have f2 := frozen_of_row w8 bn 2 _ _ hnd8
        have f3 := frozen_of_row w8 bn 3 _ _ hnd8
        have HN9 := Go.Lib.hid (show Nd ((w8.setCell ⟨bn, 2, none⟩ (.int .i64 x)).setCell ⟨bn, 3, none⟩ (.bool true)) bn p x true cc (ptr ss) (ptr tt) from heap_set (i := 3) _ (heap_set (i := 2) _ hnd8))
        have HO9 := Go.Lib.hid (show ∀ k, k ≠ bn → ((w8.setCell ⟨bn, 2, none⟩ (.int .i64 x)).setCell ⟨bn, 3, none⟩ (.bool true)).heap[k]? = w8.heap[k]? from fun k hk => (set_ne hk).trans (set_ne hk))
        have HT9 := Go.Lib.hid (poke HT8.out HN9.out HO9.out)
        have hbl : 0 < cnt (plug fs (.node bn p 0 false cc ss tt)) bn := by rw [cnt_plug]; simp only [cnt, if_pos]; omega
        have HON9 := Go.Lib.hid (show Only (Blks tb m) W ((w8.setCell ⟨bn, 2, none⟩ (.int .i64 x)).setCell ⟨bn, 3, none⟩ (.bool true)) from
          only_grow (G := fun k => k = bn) HM8.out.only (((Only.refl (fun k => k = bn) w8).set rfl _).set rfl _) (fun k hk => by rw [hk]; exact (HNEW.out bn hbl).imp_right Nat.le_of_lt))
        have HX9 := Go.Lib.hid ((HO9.out W.heap.size (fun e => HM8.out.bn e.symm)).trans HM8.out.box)
        have HNW9 := Go.Lib.hid (show ∀ k, Blks tb (plug fs (.node bn p x true cc ss tt)) k → Blks tb m k ∨ W.heap.size ≤ k from fun k hk => hk.elim (fun e => .inl (.inl e)) (fun hc => (HNEW.out k (by rw [cnt_plug] at hc ⊢; simpa only [cnt] using hc)).imp_right Nat.le_of_lt))
        have HNB := Go.Lib.hid (show ¬ Blks tb (plug fs (.node bn p x true cc ss tt)) W.heap.size from fun hk => by
          rcases hk with hk | hk
          · have := HT.out.low tb (.inl rfl); omega
          · rcases HNEW.out _ (by rw [cnt_plug] at hk ⊢; simpa only [cnt] using hk) with h5 | h5
            · have := HT.out.low _ h5; omega
            · omega)
        have HTR := Go.Lib.hid (show tr (plug fs (.node bn p x true cc ss tt)) = putT (tr m) p x by rw [HPUT.out]; exact tr_put v1 v2 p x HG.out HP.out.1 m HW.out)
        have hoo := HEND.out
        rw [HMID.out.told] at hoo
        have hge := get_end m p HW.out HG.out
        rw [HMID.out.told] at hge
        have hzz := HMID.out.zero
        have HOO := Go.Lib.hid hoo
        have HGE := Go.Lib.hid hge
        have HZZ := Go.Lib.hid hzz
        clear hnd8 hbl hoo hge hzz HT8 HM8 HT7 HMID HNEW
        have HFI := Go.Lib.hid (show Fit (incM 1 p (plug fs (.node bn p x true cc ss tt))) by rw [HPUT.out]; exact fit_new v1 v2 p x HG.out HP.out.1 m HF.out HW.out (by rw [← HGE.out]; rfl))
        have HCB := Go.Lib.hid (show CB (plug fs (.node bn p x true cc ss tt)) by rw [HPUT.out]; exact cb_put v1 v2 p x m (cb_fit m HF.out HL.out))
        have HWF := Go.Lib.hid (show WF (tr (plug fs (.node bn p x true cc ss tt))) by rw [HTR.out]; exact (put_wf (tr m) p x HW.out ⟨HG.out, HP.out.1⟩).1)
        go_upto_region 9 with fail
        generalize (w8.setCell ⟨bn, 2, none⟩ (.int .i64 x)).setCell ⟨bn, 3, none⟩ (.bool true) = w9 at *
        clear a2 a3 f2 f3
        obtain ⟨M, hM⟩ : ∃ M, M = plug fs (.node bn p x true cc ss tt) := ⟨_, rfl⟩
        rw [← hM] at HT9 HTR HFI HCB HWF HNW9 HNB
        have CO := Go.Lib.hid (fun (w : World) (h : Below w9.heap.size w9 w) => inc_any enters_put counts_put p HP.out (HT9.out.below h) HWF.out HCB.out)
        have HR := Go.Lib.hid (fun (w : World) (h : Below w9.heap.size w9 w) => (⟨cell_at (HT9.out.below h).1 rfl, (h.cell (p := ⟨W.heap.size, 0, none⟩) (show W.heap.size < w9.heap.size from block_lt_of_cell (cell_at (i := 0) HX9.out rfl))).trans (cell_at HX9.out rfl), (h.cell (p := ⟨W.heap.size, 1, none⟩) (show W.heap.size < w9.heap.size from block_lt_of_cell (cell_at (i := 0) HX9.out rfl))).trans (cell_at HX9.out rfl)⟩ : w.cell? ⟨tb, 0, none⟩ = some (ptr M) ∧ w.cell? ⟨W.heap.size, 0, none⟩ = some (.int .u32 (p.a : Int)) ∧ w.cell? ⟨W.heap.size, 1, none⟩ = some (.int .i64 p.n)))
        have hxx := HZZ.out (by simp)
        have HXX := Go.Lib.hid hxx
        clear hM hxx
        unfold pV at CO
        go_wp2_with fail
        refine wp_region_noPanic ?_
        refine wp_region_held_drew (S := fun w' => w'.cell? ⟨tb, 0, none⟩ = some (ptr M) ∧ w'.cell? ⟨W.heap.size, 0, none⟩ = some (.int .u32 (p.a : Int)) ∧ w'.cell? ⟨W.heap.size, 1, none⟩ = some (.int .i64 p.n)) (by kernel_rfl) (HR.out _ (Below.refl _ _).drew) (fun hHeld => ?_)
        refine Take.tk 0 58 hHeld ?_
        refine Take.tk 1 59 hHeld ?_
        refine Take.tk 2 60 hHeld ?_
        try simp only [Act.put, Take.nm]
        refine Take.tk 3 61 hHeld ?_
        refine Take.tk 4 62 hHeld ?_
        try simp only [Act.put, Take.nm]
        refine wpAnyH_ready (rs := [5]) (by kernel_rfl) (by simp) ?_
        refine AllReadyH.cons (o := _) (by rfl) (fun K hK => ?_) AllReadyH.nil
        go_simp
        go_at_call 33
        refine (CO.out _ (Below.refl _ _).drew).mono ?_
        rintro e w10 ⟨rfl, hT10, hO10⟩
        have HT10 := Go.Lib.hid hT10
        have HO10 := Go.Lib.hid (Only.trans (Only.of (Below.refl w9.heap.size w9).drew) hO10 : Only (Blks tb M) w9 w10)
        have hbox := (HO10.out.block W.heap.size (block_lt_of_cell (cell_at (i := 0) HX9.out rfl)) HNB.out).trans HX9.out
        have S10 : w10.cell? ⟨tb, 0, none⟩ = some (ptr M) ∧ w10.cell? ⟨W.heap.size, 0, none⟩ = some (.int .u32 (p.a : Int)) ∧ w10.cell? ⟨W.heap.size, 1, none⟩ = some (.int .i64 p.n) := ⟨(cell_at hT10.1 rfl).trans (by rw [← ptr_inc 1 p M]; rfl), cell_at hbox rfl, cell_at hbox rfl⟩
        clear hT10 hO10 hbox
        (try go_wp2_with fail)
        refine hK.out _ _ S10 (fun h1 => ?_)
        clear hK K
        try simp only [Act.put, Take.nm]
        refine wpAnyH_done (by kernel_rfl) ?_ _
        refine NoPanic.normal ?_
        go_wp2
        go_ret2
        exact ⟨_, (by rw [← HOO.out]; first | rfl | (rw [HXX.out]; rfl)), HT10.out, by rw [tr_inc]; exact HTR.out, HFI.out, only_grow HON9.out HO10.out HNW9.out, fun k hk => HNW9.out k (hk.imp_right (fun h5 => by rw [cnt_inc] at h5; exact h5))⟩
end Go.Proofs.Ytpcahgnibdampaa.Tri
