/- walk.Merge: halves merged. -/
import Derived.Test.YtgjdpmpbldofpaaDoorWlkTops
import Derived.Test.YtgjdpmpbldofpaaDoorWlkTwin
import Derived.Test.YtgjdpmpbldofpaaDoorWlkUp
import Derived.ScopeJumps
import Derived.Outline
import Derived.Deep.Cut
import Derived.BigQuiet
import Derived.Deep.RegionHeld3
import Derived.Lib.QuietBelow
namespace Go.Proofs.YtgjdpmpbldofpaaDoor.Wlk
open Go.RowKit Mem Pfx PR Oct

theorem comm_any (q p : Pf) (hq : G q) (hp : G p) (w : World) : Calls Tryd.prog 30 #[.agg #[.int .u32 q.a, .int .i64 q.n], .agg #[.int .u32 p.a, .int .i64 p.n]] w fun e w' => e = .returned (.agg #[.int .u32 (cutN q.a (comK q p) : Int), .int .i64 (comK q p)]) ∧ Below w.heap.size w w' := by
  have l1 := hq.len
  have l2 := hp.len
  have e1 : q.n = ((q.n.toNat : Nat) : Int) := by omega
  have e2 : p.n = ((p.n.toNat : Nat) : Int) := by omega
  have h := common_good q.a q.n.toNat p.a p.n.toNat hq.2 hp.2 (by omega) (by rw [← e1]; exact hq.1) (by rw [← e2]; exact hp.1) w
  rw [← e1, ← e2] at h
  exact h
theorem own_take {W : World} {base : Nat} {A : Option Addr} {c n m : Nat} {l : List Pf} (h : W.ownsRow base 24 2 (.slice A m c) m (pcells l)) (hm : m = l.length) (hn : n ≤ m) : W.ownsRow base 24 2 (.slice A n c) n (pcells (l.take n)) := by
  subst hm
  have hl : (l.take n).length = n := by rw [List.length_take]; omega
  rcases own_blkcases h with ⟨rfl, rfl, rfl⟩ | ⟨g, rfl, hg, hB⟩
  · simp at hn
    subst hn
    exact own_nil2 _ _
  · have := (hB.take hn).own hg
    rw [hl] at this
    exact this
/-- What stands at the label: n of those that stood, and one that is to come behind them. -/
def AtUp (L : List Pf) (p0 : Pf) (v : Value) (Ar : Option Addr) (cr : Nat) (b off Sn c j : Nat) (pa : Nat) (pn : Int) (m : Nat) (wr : World) (a : Act) (w : World) : Prop :=
  ∃ (n : Nat) (p : Pf) (y6 y7 y15 y16 y17 y18 y19 y20 y21 y22 y23 y24 y25 y26 y27 y28 y29 y30 y31 y32 y33 y34 y35 y36 y37 y38 y39 y40 y41 y42 y43 : Value), Hid (n ≤ m) ∧ Hid (mrg (L.take n) p = mrg L p0) ∧ Hid (G p) ∧ Hid (Below wr.heap.size wr w) ∧ (w.cell? ⟨wr.heap.size, 0, none⟩ = some (.int .u32 p.a) ∧ w.cell? ⟨wr.heap.size, 1, none⟩ = some (.int .i64 p.n)) ∧ (w.frozen? ⟨wr.heap.size, 0, none⟩ = false ∧ w.frozen? ⟨wr.heap.size, 1, none⟩ = false) ∧ Hid (wr.heap.size < w.heap.size) ∧
    a = ⟨#[v, undef, .slice none 0 0, .slice Ar n cr, undef, .pointer (some ⟨wr.heap.size, 0, none⟩), y6, y7, v, .slice (some ⟨b, off, none⟩) Sn c, .int .i64 Sn, .int .i64 j, .bool true, .pointer (some ⟨b, off + j * 2, none⟩), .agg #[.int .u32 (pa : Nat), .int .i64 pn], y15, y16, y17, y18, y19, y20, y21, y22, y23, y24, y25, y26, y27, y28, y29, y30, y31, y32, y33, y34, y35, y36, y37, y38, y39, y40, y41, y42, y43, undef], []⟩
def upM (a : Act) (_ : World) : Nat := match a.tmps[3]! with
  | .slice _ n _ => n
  | _ => 0
set_option maxHeartbeats 4000000 in
theorem merge_any (v : Value) (l : List Pf) (w : World) (hv : Pfxs w v l) (hl : l.length ≤ 100000) : Calls Tryd.prog 22 #[v] w (GivesP (mergeL (topsL (sortP l))) w) := by
  obtain ⟨i0, E0⟩ := elemP
  have CS := Go.Lib.hid (tops_any v l w hv hl)
  obtain ⟨s1, s2, s3⟩ := sort_is hv.2
  obtain ⟨t1, t2, t3, t4, t5⟩ := tops_is s1 s3
  have HR := Go.Lib.hid t1
  have hle := sort_le l
  have hS : (topsL (sortP l)).length ≤ 100000 := by omega
  generalize topsL (sortP l) = S at CS HR hS ⊢
  clear hv s1 s2 s3 hle hl t1 t2 t3 t4 t5
  go_enter Tryd.func22, Tryd.ntmps22
  go_wp2_with (go_at_call 25; refine CS.out.mono ?_; rintro e w1 ⟨A, c, rfl, ho, hb⟩; have B1 := Go.Lib.hid hb; have SV := Go.Lib.hid (Pfxs.of_own ho (oks_G HR.out.good)); clear ho hb)
  go_loopw [3, 11] (fun v3 v11 wx => ∃ (j m : Nat) (A : Option Addr) (c : Nat), j ≤ S.length ∧ m ≤ j ∧ v11 = .int .i64 j ∧ v3 = .slice A m c ∧ Hid (m = (mergeL (S.take j)).length) ∧ Hid (wx.ownsRow w1.heap.size 24 2 (.slice A m c) m (pcells (mergeL (S.take j)))) ∧ Hid (∀ q ∈ mergeL (S.take j), G q) ∧ Hid (Below w1.heap.size w1 wx)) (fun _ v11 _ => S.length - (intOf v11).toNat)
  case atStart => exact ⟨0, 0, none, 0, Nat.zero_le _, Nat.le_refl _, rfl, rfl, Go.Lib.hid rfl, Go.Lib.hid (own_nil2 _ _), Go.Lib.hid (fun q hq => by cases hq), Go.Lib.hid (Below.refl _ _)⟩
  case round =>
    obtain ⟨j, m, Ar, cr, hj, hmj, rfl, rfl, hm, hown, hgt, hb⟩ := hrel
    by_cases hlt : j < S.length
    · obtain ⟨p, hp⟩ : ∃ p, S[j]? = some p := ⟨_, List.getElem?_eq_getElem hlt⟩
      have gp := HR.out.good p (List.mem_of_getElem? hp)
      obtain ⟨b, off, rfl, hbl, k0, k1⟩ := (SV.out).at_ hp
      have c0 := (hb.out.cell (p := ⟨b, off + j * 2, none⟩) hbl).trans k0
      have c1 := (hb.out.cell (p := ⟨b, off + j * 2 + 1, none⟩) hbl).trans k1
      have z0 : (0 : Int) ≤ (j : Int) := by omega
      have z1 : (j : Int) < (S.length : Int) := by omega
      have HT := Go.Lib.hid (merge_take hp)
      have HGP := Go.Lib.hid gp
      obtain ⟨pa, pn⟩ := p
      generalize mergeL (S.take j) = L at hm hown hgt HT
      clear k0 k1 hbl hp
      have hm4 : m ≤ 100000 := by omega
      go_wp2
      refine wp_scope_up 0 (AtUp L ⟨pa, pn⟩ v Ar cr b off S.length c j pa pn m wr) upM ?_ ?_
      · exact ⟨m, ⟨pa, pn⟩, _, _, _, _, _, _, _, _, _, _, _, _, _, _, _, _, _, _, _, _, _, _, _, _, _, _, _, _, _, _, _, Go.Lib.hid (Nat.le_refl _), Go.Lib.hid (by rw [hm.out, List.take_length]), HGP, Go.Lib.hid ((Below.refl _ _).alloc (Nat.le_refl _) _), cells_two wr _ _ _, ⟨by simp, by simp⟩, Go.Lib.hid (by simp), rfl⟩
      · rintro a' w' ⟨n, p, y6, y7, y15, y16, y17, y18, y19, y20, y21, y22, y23, y24, y25, y26, y27, y28, y29, y30, y31, y32, y33, y34, y35, y36, y37, y38, y39, y40, y41, y42, y43, hn, hmg, hgp, hbw, ⟨d0, d1⟩, ⟨f0, f1⟩, hsz, rfl⟩
        have hn' := hn.out
        have hn4 : n ≤ 100000 := by omega
        have O3 := Go.Lib.hid (own_keep (own_take hown.out hm.out hn') hbw.out)
        have B3 := Go.Lib.hid (hb.out.trans (hbw.out.mono hb.out.size))
        obtain ⟨pa', pn'⟩ := p
        dsimp only at d0 d1
        clear c0 c1
        rcases Nat.eq_zero_or_pos n with h0 | h0
        · have y0 : ¬ 0 < n := by omega
          have y1 : decide (0 < n) = false := decide_eq_false y0
          have HN := Go.Lib.hid h0
          have HP := Go.Lib.hid (show mrg L ⟨pa, pn⟩ = L.take n ++ [⟨pa', pn'⟩] from by rw [← hmg.out, HN.out]; rfl)
          clear h0 hn'
          go_wp2_with (at_builtin; refine wpList_append_row rfl (.tmp 39) (.tmp 41) rfl E0 w1.heap.size _ n (pcells (L.take n)) rfl ?_ _ 1 [.int .u32 pa', .int .i64 pn'] rfl ?_ ?_ (by unfold maxLen; omega) (by omega) ?_ (n + 1) rfl ?_; exact own_keep O3.out ((Below.refl _ _).alloc (Nat.le_refl _) _); exact row_new2 _ _ _ _; exact ones2 _ _ _ _; exact (B3.out.alloc B3.out.size _).size; intro A1 c1 w4 hown1 hg1 hat1 hb1; have O4 := Go.Lib.hid hown1; have B4 := Go.Lib.hid ((B3.out.alloc B3.out.size _).trans hb1); clear hown1 hg1 hat1 hb1)
          simp only [Exit.jump]
          go_wp2
          go_roundw
          case rel => exact ⟨j + 1, n + 1, A1, c1, hlt, by have := hn.out; omega, by go_num, rfl, Go.Lib.hid (by rw [HT.out, HP.out, List.length_append, List.length_take]; have := hn.out; have := hm.out; simp; omega), Go.Lib.hid (by rw [HT.out, HP.out]; exact own_snoc O4.out), Go.Lib.hid (by rw [HT.out, HP.out]; intro q hq; rcases List.mem_append.1 hq with hq | hq; exact hgt.out q (List.mem_of_mem_take hq); rw [List.mem_singleton] at hq; rw [hq]; exact hgp.out), B4⟩
          case measure => simp [intOf]; omega
        · obtain ⟨k, hk⟩ : ∃ k, n = k + 1 := ⟨n - 1, by omega⟩
          have y0 : 0 < n := h0
          have y1 : decide (0 < n) = true := decide_eq_true y0
          have y2 : IntKind.i64.wrap ((n : Int) - 1) = (k : Int) := by rw [IntKind.wrap_i64]; omega
          have y3 : (0 : Int) ≤ (k : Int) := by omega
          have y4 : (k : Int) < (n : Int) := by omega
          have hTL : (L.take n).length = k + 1 := by rw [List.length_take, ← hm.out]; omega
          obtain ⟨q, hq, hlast⟩ := last_at hTL
          obtain ⟨M, hM⟩ := last_form hlast
          have hMk : M = L.take k := by
            have h1 : (M ++ [q]).take k = M := by
              have : M.length = k := by have := hTL; rw [hM] at this; simpa using this
              rw [← this]
              simp
            rw [← h1, ← hM, List.take_take]
            congr 1
            omega
          have gq := hgt.out q (List.mem_of_mem_take (List.mem_of_getElem? hq))
          have hOP : Pfxs w' (.slice Ar n cr) (L.take n) := Pfxs.of_own (by rw [hTL, ← hk]; exact O3.out) (oks_G (fun x hx => hgt.out x (List.mem_of_mem_take hx)))
          obtain ⟨bq, oq, rfl, hbq, e0, e1⟩ := hOP.at_ hq
          have CM := Go.Lib.hid (fun W => comm_any q ⟨pa', pn'⟩ gq hgp.out W)
          have CH := Go.Lib.hid (fun W => show Calls Tryd.prog 31 #[.agg #[.int .u32 (cutN q.a (comK q ⟨pa', pn'⟩) : Nat), .int .i64 (comK q ⟨pa', pn'⟩ : Nat)], .agg #[.int .u32 q.a, .int .i64 q.n], .agg #[.int .u32 pa', .int .i64 pn']] W (fun e w' => e = .returned (.bool (twinB q ⟨pa', pn'⟩)) ∧ Below W.heap.size W w') from by
            have h := halves_any (cutN q.a (comK q ⟨pa', pn'⟩)) (comK q ⟨pa', pn'⟩) (com_G gq hgp.out) q ⟨pa', pn'⟩ W
            rw [hv_twin gq hgp.out] at h
            exact h)
          have HCG := Go.Lib.hid (com_G gq hgp.out)
          have HCP := Go.Lib.hid (fun ht => com_parent gq hgp.out (twinB_iff.1 ht))
          have HLM := Go.Lib.hid (show L.take n = L.take k ++ [q] from by rw [hM, hMk])
          have HKC := Go.Lib.hid (fun (W : World) (h : Below w'.heap.size w' W) => (⟨(h.cell (p := ⟨wr.heap.size, 0, none⟩) hsz.out).trans d0, (h.cell (p := ⟨wr.heap.size, 1, none⟩) hsz.out).trans d1, (h.cell (p := ⟨bq, oq + k * 2, none⟩) hbq).trans e0, (h.cell (p := ⟨bq, oq + k * 2 + 1, none⟩) hbq).trans e1⟩ : W.cell? ⟨wr.heap.size, 0, none⟩ = some (.int .u32 pa') ∧ W.cell? ⟨wr.heap.size, 1, none⟩ = some (.int .i64 pn') ∧ W.cell? ⟨bq, oq + k * 2, none⟩ = some (.int .u32 q.a) ∧ W.cell? ⟨bq, oq + k * 2 + 1, none⟩ = some (.int .i64 q.n)))
          have HKF := Go.Lib.hid (fun (W : World) (h : Below w'.heap.size w' W) => (⟨keepsF h d0 f0, keepsF h d1 f1⟩ : W.frozen? ⟨wr.heap.size, 0, none⟩ = false ∧ W.frozen? ⟨wr.heap.size, 1, none⟩ = false))
          have y5 : (k : Int) ≤ (cr : Int) := by have := (hOP.form); obtain ⟨_, _, e, h1, _⟩ := this; injection e with e1 e2 e3; omega
          obtain ⟨qa, qn⟩ := q
          generalize htw : twinB ⟨qa, qn⟩ ⟨pa', pn'⟩ = tw at CH HCP
          have HTW := Go.Lib.hid htw
          generalize hct : cutN qa (comK ⟨qa, qn⟩ ⟨pa', pn'⟩) = ca at CM CH HCG HCP
          generalize hcn : comK ⟨qa, qn⟩ ⟨pa', pn'⟩ = cn at CM CH HCG HCP
          have HKN := Go.Lib.hid hk
          have HB0 := Go.Lib.hid ((Below.refl w'.heap.size w').drew)
          clear htw hct hcn hq hlast hM hMk gq hOP hTL h0 hn' d0 d1 e0 e1 f0 f1 hbq hk
          have kc := HKC.out _ HB0.out
          obtain ⟨k0, k1, k2, k3⟩ := kc
          go_wp2_with fail
          go_region_held3 (fun W => W.cell? ⟨wr.heap.size, 0, none⟩ = some (.int .u32 pa') ∧ W.cell? ⟨wr.heap.size, 1, none⟩ = some (.int .i64 pn') ∧ W.cell? ⟨bq, oq + k * 2, none⟩ = some (.int .u32 qa) ∧ W.cell? ⟨bq, oq + k * 2 + 1, none⟩ = some (.int .i64 qn))
            (first | exact ⟨by assumption, by assumption, by assumption, by assumption⟩ | exact HKC.out _ HB0.out | exact HKC.out _ (HB0.out.alloc (Nat.le_refl _) _) | exact HKC.out _ BW.out | exact HKC.out _ (BW.out.alloc BW.out.size _) | exact HKC.out _ ((BW.out.setCell (Nat.le_refl _) _).setCell (Nat.le_refl _) _))
            (first
              | (go_at_call 30; refine (CM.out _).mono ?_; rintro e w2 ⟨rfl, hb2⟩
                 first
                   | (have BW : Hid (Below w'.heap.size w' w2) := Go.Lib.hid (HB0.out.trans (hb2.mono HB0.out.size)))
                   | (have BW : Hid (Below w'.heap.size w' w2) := Go.Lib.hid ((HB0.out.alloc (Nat.le_refl _) _).trans (hb2.mono (HB0.out.alloc (Nat.le_refl _) _).size))
                      have zc := cells_two w'.drew (.int .u32 0) (.int .i64 0) 24
                      have zc0 : w2.cell? ⟨w'.heap.size, 0, none⟩ = some (.int .u32 0) := keeps hb2 zc.1
                      have zc1 : w2.cell? ⟨w'.heap.size, 1, none⟩ = some (.int .i64 0) := keeps hb2 zc.2
                      have zf0 : w2.frozen? ⟨w'.heap.size, 0, none⟩ = false := keepsF hb2 zc.1 (by simp)
                      have zf1 : w2.frozen? ⟨w'.heap.size, 1, none⟩ = false := keepsF hb2 zc.2 (by simp)
                      clear zc)
                 clear hb2))
          focus
            obtain ⟨x0, x1⟩ := cells_two w2 (.int .u32 (ca : Int)) (.int .i64 (cn : Int)) 24
            have BX := Go.Lib.hid (BW.out.alloc BW.out.size (.cells #[.int .u32 (ca : Int), .int .i64 (cn : Int)] 24))
            generalize w2.heap.size = nb at x0 x1 ⊢
            generalize w2.alloc (.cells #[.int .u32 (ca : Int), .int .i64 (cn : Int)] 24) = W3 at x0 x1 BX ⊢
            clear BW
          rotate_left
          focus
            have x0 : ((w2.setCell ⟨w'.heap.size, 0, none⟩ (.int .u32 (ca : Int))).setCell ⟨w'.heap.size, 1, none⟩ (.int .i64 (cn : Int))).cell? ⟨w'.heap.size, 0, none⟩ = some (.int .u32 (ca : Int)) := (World.cell?_setCell_other _ _ _ _ (by simp)).trans (World.cell?_setCell_same _ _ _ zc0)
            have x1 : ((w2.setCell ⟨w'.heap.size, 0, none⟩ (.int .u32 (ca : Int))).setCell ⟨w'.heap.size, 1, none⟩ (.int .i64 (cn : Int))).cell? ⟨w'.heap.size, 1, none⟩ = some (.int .i64 (cn : Int)) := World.cell?_setCell_same _ _ _ ((World.cell?_setCell_other _ ⟨w'.heap.size, 0, none⟩ _ _ (by simp)).trans zc1)
            have BX := Go.Lib.hid ((BW.out.setCell (p := ⟨w'.heap.size, 0, none⟩) (Nat.le_refl _) (.int .u32 (ca : Int))).setCell (p := ⟨w'.heap.size, 1, none⟩) (Nat.le_refl _) (.int .i64 (cn : Int)))
            generalize (w2.setCell ⟨w'.heap.size, 0, none⟩ (.int .u32 (ca : Int))).setCell ⟨w'.heap.size, 1, none⟩ (.int .i64 (cn : Int)) = W3 at x0 x1 BX ⊢
            clear BW zc0 zc1 zf0 zf1
          all_goals
            have CV := inRegion CH.out W3
            obtain ⟨j0, j1, j2, j3⟩ := HKC.out W3 BX.out
            have r0 := cell_regrown x0
            have r1 := cell_regrown x1
            have r2 := cell_regrown j0
            have r3 := cell_regrown j1
            have r4 := cell_regrown j2
            have r5 := cell_regrown j3
            clear x0 x1 j0 j1 j2 j3 k0 k1 k2 k3
            have HX := Go.Lib.hid HCP.out
            clear HCP
            cases tw
            · have HP := Go.Lib.hid (show mrg L ⟨pa, pn⟩ = L.take n ++ [⟨pa', pn'⟩] from by rw [← hmg.out, HLM.out, mrg_push HTW.out])
              go_wp2_with fail
              refine wp_region_quiet_below (by kernel_rfl) (by kernel_rfl) ?_
              repeat (first | go_big_quiet_step (exact CV _ _) | quiet_step (exact CV _ _))
              refine wpQuiet_nil ?_
              intro _ hw'
              obtain ⟨⟨dq, osq⟩, hw''⟩ := hw'
              subst hw''
              have B4 := Go.Lib.hid (BX.out.trans ((below_regrown W3 dq osq).mono BX.out.size))
              have B5 := Go.Lib.hid (B3.out.trans (B4.out.mono B3.out.size))
              have O5 := Go.Lib.hid (own_keep O3.out B4.out)
              have d0 := r2 dq osq
              have d1 := r3 dq osq
              clear r0 r1 r2 r3 r4 r5 CV
              generalize Go.Sort.grow (redrawn W3 dq) osq = W4 at B4 B5 O5 d0 d1 ⊢
              go_wp2_with (at_builtin; refine wpList_append_row rfl (.tmp 39) (.tmp 41) rfl E0 w1.heap.size _ n (pcells (L.take n)) rfl ?_ _ 1 [.int .u32 pa', .int .i64 pn'] rfl ?_ ?_ (by unfold maxLen; omega) (by omega) ?_ (n + 1) rfl ?_; exact own_keep O5.out ((Below.refl _ _).alloc (Nat.le_refl _) _); exact row_new2 _ _ _ _; exact ones2 _ _ _ _; exact (B5.out.alloc B5.out.size _).size; intro A1 c1 w4 hown1 hg1 hat1 hb1; have O4 := Go.Lib.hid hown1; have B4 := Go.Lib.hid ((B5.out.alloc B5.out.size _).trans hb1); clear hown1 hg1 hat1 hb1)
              simp only [Exit.jump]
              go_wp2
              go_roundw
              case rel => exact ⟨j + 1, n + 1, A1, c1, hlt, by have := hn.out; omega, by go_num, rfl, Go.Lib.hid (by rw [HT.out, HP.out, List.length_append, List.length_take]; have := hn.out; have := hm.out; simp; omega), Go.Lib.hid (by rw [HT.out, HP.out]; exact own_snoc O4.out), Go.Lib.hid (by rw [HT.out, HP.out]; intro q hq; rcases List.mem_append.1 hq with hq | hq; exact hgt.out q (List.mem_of_mem_take hq); rw [List.mem_singleton] at hq; rw [hq]; exact hgp.out), B4⟩
              case measure => simp [intOf]; omega
            · go_wp2_with fail
              refine wp_region_quiet_below (by kernel_rfl) (by kernel_rfl) ?_
              repeat (first | go_big_quiet_step (exact CV _ _) | quiet_step (exact CV _ _))
              refine wpQuiet_nil ?_
              intro _ hw'
              obtain ⟨⟨dq, osq⟩, hw''⟩ := hw'
              subst hw''
              have B4 := Go.Lib.hid (BX.out.trans ((below_regrown W3 dq osq).mono BX.out.size))
              have e0 := r0 dq osq
              have e1 := r1 dq osq
              have d0 := r2 dq osq
              have d1 := r3 dq osq
              obtain ⟨f0, f1⟩ := HKF.out _ B4.out
              clear r0 r1 r2 r3 r4 r5 CV
              generalize Go.Sort.grow (redrawn W3 dq) osq = W4 at B4 d0 d1 e0 e1 f0 f1 ⊢
              go_wp2
              go_region
              go_wp2
              go_step3
              have ht := twinB_iff.1 HTW.out
              have hgq : G ⟨qa, qn⟩ := hgt.out _ (List.mem_of_mem_take (by rw [HLM.out]; simp))
              refine ⟨rfl, ⟨k, ⟨ca, (cn : Int)⟩, _, _, _, _, _, _, _, _, _, _, _, _, _, _, _, _, _, _, _, _, _, _, _, _, _, _, _, _, _, _, _, Go.Lib.hid (by have := hn.out; omega), Go.Lib.hid ?_, HCG, Go.Lib.hid ?_, ⟨?_, ?_⟩, ⟨?_, ?_⟩, Go.Lib.hid ?_, rfl⟩, ?_⟩
              · rw [← hmg.out, HLM.out, mrg_twin HTW.out, HX.out trivial]
              · exact ((((hbw.out.trans (B4.out.mono hbw.out.size)).setCell (p := ⟨wr.heap.size, 0, none⟩) (Nat.le_refl _) _).setCell (p := ⟨wr.heap.size, 1, none⟩) (Nat.le_refl _) _)).drew
              · exact (World.cell?_setCell_other _ _ _ _ (by simp)).trans (World.cell?_setCell_same _ _ _ d0)
              · exact World.cell?_setCell_same _ _ _ ((World.cell?_setCell_other _ ⟨wr.heap.size, 0, none⟩ _ _ (by simp)).trans d1)
              · simpa using f0
              · simpa using f1
              · have := hsz.out
                have := B4.out.size
                simp
                omega
              · show k < n
                have := HKN.out
                omega
    · have z1 : decide ((j : Int) < (S.length : Int)) = false := decide_eq_false (by omega)
      have HJ := Go.Lib.hid (show S.take j = S from List.take_of_length_le (by omega))
      rw [HJ.out] at hm hown
      go_wp2
      go_ret
      exact ⟨Ar, cr, by rw [← hm.out]; rfl, by rw [← hm.out]; exact Mem.own_base hown.out B1.out.size, B1.out.trans (hb.out.mono B1.out.size)⟩
end Go.Proofs.YtgjdpmpbldofpaaDoor.Wlk
