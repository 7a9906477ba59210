/- Two Updates in boxes that a law keeps. It speaks of no function of the program. UpdateWrites: the law's walk. -/
import Derived.Test.YtlhdjdnflpilbaaGreatDoorH46
import Derived.Test.YtlhdjdnflpilbaaGreatDoorH44
import Derived.Test.YtlhdjdnflpilbaaGreatDoorH26
import Derived.Test.YtlhdjdnflpilbaaGreatDoorH15
import Derived.Test.YtlhdjdnflpilbaaGreatDoorH23
import Derived.Test.YtlhdjdnflpilbaaGreatDoorH43
import Derived.Test.YtlhdjdnflpilbaaGreatDoorH17
import Derived.Deep.DeepCutAuto
namespace Go.Proofs.YtlhdjdnflpilbaaGreatDoor.Upd
open Go.RowKit Mem Segm Oct Att Seg PR
structure Kept10 (W : World) (B : Nat) (q : Up) (vg vp vc vh : Value) : Prop where
 bu : BoxU W B 29 q.at_ vg vp vc vh
 up : Upds W (uV q.at_ vg vp vc vh) q
theorem Kept10.below {W W2 : World} {B : Nat} {q : Up} {vg vp vc vh : Value} (h : Kept10 W B q vg vp vc vh) (hb : Below W.heap.size W W2) : Kept10 W2 B q vg vp vc vh := ⟨h.bu.keep hb, h.up.keep hb⟩
theorem updF_form {n : Nat} {W : World} {v : Value} {q : Up} (h : UpdF n W v q) : ∃ (Ag : Option Addr) (ng cg : Nat) (Ap : Option Addr) (np cp : Nat) (Ac : Option Addr) (nc cc : Nat) (Ah : Option Addr) (nh ch : Nat), v = uV q.at_ (.slice Ag ng cg) (.slice Ap np cp) (.slice Ac nc cc) (.slice Ah nh ch) := by
 obtain ⟨vg, vp, vc, vh, rfl, hg, ha, hh⟩ := h.upds
 obtain ⟨Ag, cg, rfl, -, -⟩ := hg.form
 obtain ⟨Ah, ch, rfl, -, -⟩ := hh.form
 obtain ⟨k1, vp', vc', k2, k3, k4⟩ := ha
 simp only [aV, acells, Value.agg.injEq, List.toArray_eq_iff, List.cons.injEq, and_true, true_and] at k2
 obtain ⟨rfl, rfl⟩ := k2
 obtain ⟨Ap, cp, rfl, -, -⟩ := k3.form
 obtain ⟨Ac, cc, rfl, -, -, -, -⟩ := k4.open_
 exact ⟨Ag, _, cg, Ap, _, cp, Ac, _, cc, Ah, _, ch, rfl⟩
theorem fewU_of {q : Up} {w w' : World} {e : Ending} (h : GivesU q w e w') : ∃ (Ag : Option Addr) (ng cg : Nat) (Ap : Option Addr) (np cp : Nat) (Ac : Option Addr) (nc cc : Nat) (Ah : Option Addr) (nh ch : Nat), e = .returned (.agg #[.slice Ag ng cg, .int .i64 q.at_.has, .int .i64 q.at_.origin, .slice Ap np cp, .int .u32 q.at_.hop, .int .u32 q.at_.med, .int .u32 q.at_.pref, .int .u32 q.at_.aas, .int .u32 q.at_.aid, .slice Ac nc cc, .slice Ah nh ch]) ∧ UpdF w.heap.size w' (uV q.at_ (.slice Ag ng cg) (.slice Ap np cp) (.slice Ac nc cc) (.slice Ah nh ch)) q ∧ Below w.heap.size w w' := by
 obtain ⟨v, h1, h2, h3⟩ := h
 obtain ⟨Ag, ng, cg, Ap, np, cp, Ac, nc, cc, Ah, nh, ch, rfl⟩ := updF_form h2
 exact ⟨Ag, ng, cg, Ap, np, cp, Ac, nc, cc, Ah, nh, ch, h1, h2, h3⟩
theorem kept_two {w y : World} {a b : At} {vg vp vc vh vg' vp' vc' vh' : Value} {q r : Up} {Ag : Option Addr} {ng cg : Nat} {Ap : Option Addr} {np cp : Nat} {Ac : Option Addr} {nc cc : Nat} {Ah : Option Addr} {nh ch : Nat} {Bg : Option Addr} {mg dg : Nat} {Bp : Option Addr} {mp dp : Nat} {Bc : Option Addr} {mc dc : Nat} {Bh : Option Addr} {mh dh : Nat} (h1 : BoxU y w.heap.size 29 a vg vp vc vh) (h2 : BoxU y (w.heap.size + 1) 29 b vg' vp' vc' vh') (h3 : UpdF (w.heap.size + 2) y (uV q.at_ (.slice Ag ng cg) (.slice Ap np cp) (.slice Ac nc cc) (.slice Ah nh ch)) q) (h4 : UpdF (w.heap.size + 2) y (uV r.at_ (.slice Bg mg dg) (.slice Bp mp dp) (.slice Bc mc dc) (.slice Bh mh dh)) r) (hb : Below w.heap.size w y) :
  Kept10 ((y.setRow w.heap.size #[.slice Ag ng cg, .int .i64 q.at_.has, .int .i64 q.at_.origin, .slice Ap np cp, .int .u32 q.at_.hop, .int .u32 q.at_.med, .int .u32 q.at_.pref, .int .u32 q.at_.aas, .int .u32 q.at_.aid, .slice Ac nc cc, .slice Ah nh ch]).setRow (w.heap.size + 1) #[.slice Bg mg dg, .int .i64 r.at_.has, .int .i64 r.at_.origin, .slice Bp mp dp, .int .u32 r.at_.hop, .int .u32 r.at_.med, .int .u32 r.at_.pref, .int .u32 r.at_.aas, .int .u32 r.at_.aid, .slice Bc mc dc, .slice Bh mh dh]) w.heap.size q (.slice Ag ng cg) (.slice Ap np cp) (.slice Ac nc cc) (.slice Ah nh ch) ∧ Kept10 ((y.setRow w.heap.size #[.slice Ag ng cg, .int .i64 q.at_.has, .int .i64 q.at_.origin, .slice Ap np cp, .int .u32 q.at_.hop, .int .u32 q.at_.med, .int .u32 q.at_.pref, .int .u32 q.at_.aas, .int .u32 q.at_.aid, .slice Ac nc cc, .slice Ah nh ch]).setRow (w.heap.size + 1) #[.slice Bg mg dg, .int .i64 r.at_.has, .int .i64 r.at_.origin, .slice Bp mp dp, .int .u32 r.at_.hop, .int .u32 r.at_.med, .int .u32 r.at_.pref, .int .u32 r.at_.aas, .int .u32 r.at_.aid, .slice Bc mc dc, .slice Bh mh dh]) (w.heap.size + 1) r (.slice Bg mg dg) (.slice Bp mp dp) (.slice Bc mc dc) (.slice Bh mh dh) ∧ Below w.heap.size w ((y.setRow w.heap.size #[.slice Ag ng cg, .int .i64 q.at_.has, .int .i64 q.at_.origin, .slice Ap np cp, .int .u32 q.at_.hop, .int .u32 q.at_.med, .int .u32 q.at_.pref, .int .u32 q.at_.aas, .int .u32 q.at_.aid, .slice Ac nc cc, .slice Ah nh ch]).setRow (w.heap.size + 1) #[.slice Bg mg dg, .int .i64 r.at_.has, .int .i64 r.at_.origin, .slice Bp mp dp, .int .u32 r.at_.hop, .int .u32 r.at_.med, .int .u32 r.at_.pref, .int .u32 r.at_.aas, .int .u32 r.at_.aid, .slice Bc mc dc, .slice Bh mh dh]) := by
 have k2 : (y.setRow w.heap.size #[.slice Ag ng cg, .int .i64 q.at_.has, .int .i64 q.at_.origin, .slice Ap np cp, .int .u32 q.at_.hop, .int .u32 q.at_.med, .int .u32 q.at_.pref, .int .u32 q.at_.aas, .int .u32 q.at_.aid, .slice Ac nc cc, .slice Ah nh ch]).heap[w.heap.size + 1]? = _ := (setRow_other _ _ _ _ (by omega)).trans h2.blk
 have hk : ∀ k, w.heap.size + 2 ≤ k → ((y.setRow w.heap.size #[.slice Ag ng cg, .int .i64 q.at_.has, .int .i64 q.at_.origin, .slice Ap np cp, .int .u32 q.at_.hop, .int .u32 q.at_.med, .int .u32 q.at_.pref, .int .u32 q.at_.aas, .int .u32 q.at_.aid, .slice Ac nc cc, .slice Ah nh ch]).setRow (w.heap.size + 1) #[.slice Bg mg dg, .int .i64 r.at_.has, .int .i64 r.at_.origin, .slice Bp mp dp, .int .u32 r.at_.hop, .int .u32 r.at_.med, .int .u32 r.at_.pref, .int .u32 r.at_.aas, .int .u32 r.at_.aid, .slice Bc mc dc, .slice Bh mh dh]).heap[k]? = y.heap[k]? := fun k hk => (setRow_other _ _ _ _ (by omega)).trans (setRow_other _ _ _ _ (by omega))
 have hs : y.heap.size ≤ ((y.setRow w.heap.size #[.slice Ag ng cg, .int .i64 q.at_.has, .int .i64 q.at_.origin, .slice Ap np cp, .int .u32 q.at_.hop, .int .u32 q.at_.med, .int .u32 q.at_.pref, .int .u32 q.at_.aas, .int .u32 q.at_.aid, .slice Ac nc cc, .slice Ah nh ch]).setRow (w.heap.size + 1) #[.slice Bg mg dg, .int .i64 r.at_.has, .int .i64 r.at_.origin, .slice Bp mp dp, .int .u32 r.at_.hop, .int .u32 r.at_.med, .int .u32 r.at_.pref, .int .u32 r.at_.aas, .int .u32 r.at_.aid, .slice Bc mc dc, .slice Bh mh dh]).heap.size := by simp
 exact ⟨⟨⟨(setRow_other _ _ _ _ (by omega)).trans (setRow_heap _ _ _ _ _ _ h1.blk)⟩, (h3.off hk hs).upds⟩, ⟨⟨setRow_heap _ _ _ _ _ _ k2⟩, (h4.off hk hs).upds⟩, below_setRow (below_setRow hb (Nat.le_refl _) _) (by omega) _⟩
end Go.Proofs.YtlhdjdnflpilbaaGreatDoor.Upd
namespace Go.Proofs.YtlhdjdnflpilbaaGreatDoor.Upd
open Go.RowKit Mem Segm Oct Att Seg PR
theorem encU_small {u : Up} (hg : goodU u = true) (ha : Small (encA u.at_)) : Small (encU u) := by
 obtain ⟨g1, g2, -⟩ := goodU_at hg
 unfold encU
 exact ((((big_small _ _).append (encs_small g1)).append (big_small _ _)).append ha).append (encs_small g2)
set_option maxRecDepth 100000 in
set_option maxHeartbeats 16000000 in
theorem writes_walk (va vb : Value) (a b : Up) (w : World) (ha : Upds w va a) (hb : Upds w vb b) (hS : Shp w) :
  Calls Tryz.prog 3 #[va, vb] w (Tells (.bool true) w) := by
 have HFA := Go.Lib.hid (fun (v : Value) (W : World) (h : Upds W v a) => (few10_any v a W h).mono fun _ _ h2 => fewU_of h2)
 have HFB := Go.Lib.hid (fun (v : Value) (W : World) (h : Upds W v b) => (few10_any v b W h).mono fun _ _ h2 => fewU_of h2)
 have HXa := Go.Lib.hid (fun W (h : Below w.heap.size w W) => ha.keep h)
 have HXb := Go.Lib.hid (fun W (h : Below w.heap.size w W) => hb.keep h)
 obtain ⟨vg, vp, vc, vh, rfl, -, -, -⟩ := ha
 obtain ⟨vg', vp', vc', vh', rfl, -, -, -⟩ := hb
 obtain ⟨X1, X2, X3⟩ := two_upds w a.at_ b.at_ vg vp vc vh vg' vp' vc' vh'
 replace X1 := Go.Lib.hid X1
 replace X2 := Go.Lib.hid X2
 replace X3 := Go.Lib.hid X3
 have HS := Go.Lib.hid hS
 unfold uV at HXa HXb ⊢
 clear hS
 go_enter Tryz.func3, Tryz.ntmps3
 go_upto_region 1 with fail
 obtain ⟨W0, hW0⟩ : ∃ W0, W0 = (w.alloc (.cells #[vg, .int .i64 a.at_.has, .int .i64 a.at_.origin, vp, .int .u32 a.at_.hop, .int .u32 a.at_.med, .int .u32 a.at_.pref, .int .u32 a.at_.aas, .int .u32 a.at_.aid, vc, vh] 29)).alloc (.cells #[vg', .int .i64 b.at_.has, .int .i64 b.at_.origin, vp', .int .u32 b.at_.hop, .int .u32 b.at_.med, .int .u32 b.at_.pref, .int .u32 b.at_.aas, .int .u32 b.at_.aid, vc', vh'] 29) := ⟨_, rfl⟩
 have hs0 := Go.Lib.hid (show w.heap.size + 2 ≤ W0.heap.size by rw [hW0]; simp)
 rw [← hW0] at X1 X2 X3 ⊢
 clear hW0
 obtain ⟨q, hq⟩ : ∃ q, q = fewU a := ⟨_, rfl⟩
 obtain ⟨r, hr⟩ : ∃ r, r = fewU b := ⟨_, rfl⟩
 rw [← hq] at HFA
 rw [← hr] at HFB
 have HQ := Go.Lib.hid (show Cut8 q.at_ ∧ q.gone.length ≤ 30 ∧ q.here.length ≤ 30 ∧ fewU q = q from by rw [hq]; exact ⟨cut8_few _, by unfold fewU; rw [List.length_take]; omega, by unfold fewU; rw [List.length_take]; omega, fewU_twice a (cut8_few a.at_).few⟩)
 have HR := Go.Lib.hid (show Cut8 r.at_ ∧ r.gone.length ≤ 30 ∧ r.here.length ≤ 30 ∧ fewU r = r from by rw [hr]; exact ⟨cut8_few _, by unfold fewU; rw [List.length_take]; omega, by unfold fewU; rw [List.length_take]; omega, fewU_twice b (cut8_few b.at_).few⟩)
 clear hq hr
 go_cut [] (fun wx => ∃ (Ag : Option Addr) (ng cg : Nat) (Ap : Option Addr) (np cp : Nat) (Ac : Option Addr) (nc cc : Nat) (Ah : Option Addr) (nh ch : Nat) (Bg : Option Addr) (mg dg : Nat) (Bp : Option Addr) (mp dp : Nat) (Bc : Option Addr) (mc dc : Nat) (Bh : Option Addr) (mh dh : Nat), Hid (Kept10 wx w.heap.size q (.slice Ag ng cg) (.slice Ap np cp) (.slice Ac nc cc) (.slice Ah nh ch) ∧ Kept10 wx (w.heap.size + 1) r (.slice Bg mg dg) (.slice Bp mp dp) (.slice Bc mc dc) (.slice Bh mh dh) ∧ Below w.heap.size w wx))
 case first =>
  obtain ⟨p0, p1, p2, p3, p4, p5, p6, p7, p8, p9, p10⟩ := X1.out.cells
  obtain ⟨q0, q1, q2, q3, q4, q5, q6, q7, q8, q9, q10⟩ := X2.out.cells
  refine wp_region_any (by kernel_rfl) ?_
  change wpAny _ _ _ _ _ _ _ (World.drew _)
  refine wpAny_ready (rs := [0, 2]) (by kernel_rfl) (by simp) ?_
  refine AllReady.cons (o := _) (by rfl) (fun K hK => ?_) (AllReady.cons (o := _) (by rfl) (fun K hK => ?_) AllReady.nil)
  ·go_simp
   refine hK _ _ ?_
   clear hK K
   refine wpAny_ready (rs := [1, 2]) (by kernel_rfl) (by simp) ?_
   refine AllReady.cons (o := _) (by rfl) (fun K hK => ?_) (AllReady.cons (o := _) (by rfl) (fun K hK => ?_) AllReady.nil)
   ·go_simp
    go_at_call 5; (refine (HFA.out _ _ (HXa.out _ X3.out.drew)).mono ?_; rintro e x ⟨Ag, ng, cg, Ap, np, cp, Ac, nc, cc, Ah, nh, ch, rfl, hU, hx⟩; have hx0 := (Below.refl W0.heap.size W0).drew.trans hx; replace X1 := Go.Lib.hid (X1.out.keep hx0); replace X2 := Go.Lib.hid (X2.out.keep hx0); have Y3 := Go.Lib.hid (X3.out.trans (hx0.mono X3.out.size)); have U1 := Go.Lib.hid (hU.lower (m := w.heap.size + 2) hs0.out); have hs1 := Go.Lib.hid (Nat.le_trans hs0.out hx0.size); clear hU hx hx0 p0 p1 p2 p3 p4 p5 p6 p7 p8 p9 p10 q0 q1 q2 q3 q4 q5 q6 q7 q8 q9 q10; obtain ⟨p0, p1, p2, p3, p4, p5, p6, p7, p8, p9, p10⟩ := X1.out.cells; obtain ⟨q0, q1, q2, q3, q4, q5, q6, q7, q8, q9, q10⟩ := X2.out.cells)
    refine hK _ _ ?_
    clear hK K
    refine wpAny_ready (rs := [2]) (by kernel_rfl) (by simp) ?_
    refine AllReady.cons (o := _) (by rfl) (fun K hK => ?_) AllReady.nil
    go_simp
    refine hK _ _ ?_
    clear hK K
    refine wpAny_ready (rs := [3]) (by kernel_rfl) (by simp) ?_
    refine AllReady.cons (o := _) (by rfl) (fun K hK => ?_) AllReady.nil
    go_simp
    go_at_call 5; (refine (HFB.out _ _ (HXb.out _ Y3.out)).mono ?_; rintro e y ⟨Bg, mg, dg, Bp, mp, dp, Bc, mc, dc, Bh, mh, dh, rfl, hU, hx⟩; replace X1 := Go.Lib.hid (X1.out.keep hx); replace X2 := Go.Lib.hid (X2.out.keep hx); have Y4 := Go.Lib.hid (Y3.out.trans (hx.mono Y3.out.size)); replace U1 := Go.Lib.hid (U1.out.keep hx); have U2 := Go.Lib.hid (hU.lower (m := w.heap.size + 2) hs1.out); have KU := Go.Lib.hid X1.out.blk; have KN := Go.Lib.hid (show (y.setRow w.heap.size #[.slice Ag ng cg, .int .i64 q.at_.has, .int .i64 q.at_.origin, .slice Ap np cp, .int .u32 q.at_.hop, .int .u32 q.at_.med, .int .u32 q.at_.pref, .int .u32 q.at_.aas, .int .u32 q.at_.aid, .slice Ac nc cc, .slice Ah nh ch]).heap[w.heap.size + 1]? = some (.cells #[vg', .int .i64 b.at_.has, .int .i64 b.at_.origin, vp', .int .u32 b.at_.hop, .int .u32 b.at_.med, .int .u32 b.at_.pref, .int .u32 b.at_.aas, .int .u32 b.at_.aid, vc', vh'] 29 (0, 0)) from (setRow_other _ _ _ _ (by omega)).trans X2.out.blk); clear hU hx p0 p1 p2 p3 p4 p5 p6 p7 p8 p9 p10 q0 q1 q2 q3 q4 q5 q6 q7 q8 q9 q10)
    refine hK _ _ ?_
    clear hK K
    refine wpAny_ready (rs := [4]) (by kernel_rfl) (by simp) ?_
    refine AllReady.cons (o := _) (by rfl) (fun K hK => ?_) AllReady.nil
    rw [if_pos (by rfl)]
    refine wp_store_row 29 (.tmp 2) (.tmp 11) rfl w.heap.size #[.slice Ag ng cg, .int .i64 q.at_.has, .int .i64 q.at_.origin, .slice Ap np cp, .int .u32 q.at_.hop, .int .u32 q.at_.med, .int .u32 q.at_.pref, .int .u32 q.at_.aas, .int .u32 q.at_.aid, .slice Ac nc cc, .slice Ah nh ch] rfl rfl _ _ KU.out (by kernel_rfl) rfl (by simp [Value.oneCell']) ?_
    refine hK _ _ ?_
    clear hK K
    refine wpAny_ready (rs := [5]) (by kernel_rfl) (by simp) ?_
    refine AllReady.cons (o := _) (by rfl) (fun K hK => ?_) AllReady.nil
    rw [if_pos (by rfl)]
    refine wp_store_row 29 (.tmp 3) (.tmp 13) rfl (w.heap.size + 1) #[.slice Bg mg dg, .int .i64 r.at_.has, .int .i64 r.at_.origin, .slice Bp mp dp, .int .u32 r.at_.hop, .int .u32 r.at_.med, .int .u32 r.at_.pref, .int .u32 r.at_.aas, .int .u32 r.at_.aid, .slice Bc mc dc, .slice Bh mh dh] rfl rfl _ _ KN.out (by kernel_rfl) rfl (by simp [Value.oneCell']) ?_
    refine hK _ _ ?_
    clear hK K
    refine wpAny_done (by kernel_rfl) ?_ _
    go_wp2_with fail
    go_meet
    exact ⟨Ag, ng, cg, Ap, np, cp, Ac, nc, cc, Ah, nh, ch, Bg, mg, dg, Bp, mp, dp, Bc, mc, dc, Bh, mh, dh, Go.Lib.hid (kept_two X1.out X2.out U1.out U2.out Y4.out)⟩
   ·go_simp
    refine hK _ _ ?_
    clear hK K
    refine wpAny_ready (rs := [1]) (by kernel_rfl) (by simp) ?_
    refine AllReady.cons (o := _) (by rfl) (fun K hK => ?_) AllReady.nil
    go_simp
    go_at_call 5; (refine (HFA.out _ _ (HXa.out _ X3.out.drew)).mono ?_; rintro e x ⟨Ag, ng, cg, Ap, np, cp, Ac, nc, cc, Ah, nh, ch, rfl, hU, hx⟩; have hx0 := (Below.refl W0.heap.size W0).drew.trans hx; replace X1 := Go.Lib.hid (X1.out.keep hx0); replace X2 := Go.Lib.hid (X2.out.keep hx0); have Y3 := Go.Lib.hid (X3.out.trans (hx0.mono X3.out.size)); have U1 := Go.Lib.hid (hU.lower (m := w.heap.size + 2) hs0.out); have hs1 := Go.Lib.hid (Nat.le_trans hs0.out hx0.size); clear hU hx hx0 p0 p1 p2 p3 p4 p5 p6 p7 p8 p9 p10 q0 q1 q2 q3 q4 q5 q6 q7 q8 q9 q10; obtain ⟨p0, p1, p2, p3, p4, p5, p6, p7, p8, p9, p10⟩ := X1.out.cells; obtain ⟨q0, q1, q2, q3, q4, q5, q6, q7, q8, q9, q10⟩ := X2.out.cells)
    refine hK _ _ ?_
    clear hK K
    refine wpAny_ready (rs := [3]) (by kernel_rfl) (by simp) ?_
    refine AllReady.cons (o := _) (by rfl) (fun K hK => ?_) AllReady.nil
    go_simp
    go_at_call 5; (refine (HFB.out _ _ (HXb.out _ Y3.out)).mono ?_; rintro e y ⟨Bg, mg, dg, Bp, mp, dp, Bc, mc, dc, Bh, mh, dh, rfl, hU, hx⟩; replace X1 := Go.Lib.hid (X1.out.keep hx); replace X2 := Go.Lib.hid (X2.out.keep hx); have Y4 := Go.Lib.hid (Y3.out.trans (hx.mono Y3.out.size)); replace U1 := Go.Lib.hid (U1.out.keep hx); have U2 := Go.Lib.hid (hU.lower (m := w.heap.size + 2) hs1.out); have KU := Go.Lib.hid X1.out.blk; have KN := Go.Lib.hid (show (y.setRow w.heap.size #[.slice Ag ng cg, .int .i64 q.at_.has, .int .i64 q.at_.origin, .slice Ap np cp, .int .u32 q.at_.hop, .int .u32 q.at_.med, .int .u32 q.at_.pref, .int .u32 q.at_.aas, .int .u32 q.at_.aid, .slice Ac nc cc, .slice Ah nh ch]).heap[w.heap.size + 1]? = some (.cells #[vg', .int .i64 b.at_.has, .int .i64 b.at_.origin, vp', .int .u32 b.at_.hop, .int .u32 b.at_.med, .int .u32 b.at_.pref, .int .u32 b.at_.aas, .int .u32 b.at_.aid, vc', vh'] 29 (0, 0)) from (setRow_other _ _ _ _ (by omega)).trans X2.out.blk); clear hU hx p0 p1 p2 p3 p4 p5 p6 p7 p8 p9 p10 q0 q1 q2 q3 q4 q5 q6 q7 q8 q9 q10)
    refine hK _ _ ?_
    clear hK K
    refine wpAny_ready (rs := [4]) (by kernel_rfl) (by simp) ?_
    refine AllReady.cons (o := _) (by rfl) (fun K hK => ?_) AllReady.nil
    rw [if_pos (by rfl)]
    refine wp_store_row 29 (.tmp 2) (.tmp 11) rfl w.heap.size #[.slice Ag ng cg, .int .i64 q.at_.has, .int .i64 q.at_.origin, .slice Ap np cp, .int .u32 q.at_.hop, .int .u32 q.at_.med, .int .u32 q.at_.pref, .int .u32 q.at_.aas, .int .u32 q.at_.aid, .slice Ac nc cc, .slice Ah nh ch] rfl rfl _ _ KU.out (by kernel_rfl) rfl (by simp [Value.oneCell']) ?_
    refine hK _ _ ?_
    clear hK K
    refine wpAny_ready (rs := [5]) (by kernel_rfl) (by simp) ?_
    refine AllReady.cons (o := _) (by rfl) (fun K hK => ?_) AllReady.nil
    rw [if_pos (by rfl)]
    refine wp_store_row 29 (.tmp 3) (.tmp 13) rfl (w.heap.size + 1) #[.slice Bg mg dg, .int .i64 r.at_.has, .int .i64 r.at_.origin, .slice Bp mp dp, .int .u32 r.at_.hop, .int .u32 r.at_.med, .int .u32 r.at_.pref, .int .u32 r.at_.aas, .int .u32 r.at_.aid, .slice Bc mc dc, .slice Bh mh dh] rfl rfl _ _ KN.out (by kernel_rfl) rfl (by simp [Value.oneCell']) ?_
    refine hK _ _ ?_
    clear hK K
    refine wpAny_done (by kernel_rfl) ?_ _
    go_wp2_with fail
    go_meet
    exact ⟨Ag, ng, cg, Ap, np, cp, Ac, nc, cc, Ah, nh, ch, Bg, mg, dg, Bp, mp, dp, Bc, mc, dc, Bh, mh, dh, Go.Lib.hid (kept_two X1.out X2.out U1.out U2.out Y4.out)⟩
  ·go_simp
   refine hK _ _ ?_
   clear hK K
   refine wpAny_ready (rs := [0]) (by kernel_rfl) (by simp) ?_
   refine AllReady.cons (o := _) (by rfl) (fun K hK => ?_) AllReady.nil
   go_simp
   refine hK _ _ ?_
   clear hK K
   refine wpAny_ready (rs := [1]) (by kernel_rfl) (by simp) ?_
   refine AllReady.cons (o := _) (by rfl) (fun K hK => ?_) AllReady.nil
   go_simp
   go_at_call 5; (refine (HFA.out _ _ (HXa.out _ X3.out.drew)).mono ?_; rintro e x ⟨Ag, ng, cg, Ap, np, cp, Ac, nc, cc, Ah, nh, ch, rfl, hU, hx⟩; have hx0 := (Below.refl W0.heap.size W0).drew.trans hx; replace X1 := Go.Lib.hid (X1.out.keep hx0); replace X2 := Go.Lib.hid (X2.out.keep hx0); have Y3 := Go.Lib.hid (X3.out.trans (hx0.mono X3.out.size)); have U1 := Go.Lib.hid (hU.lower (m := w.heap.size + 2) hs0.out); have hs1 := Go.Lib.hid (Nat.le_trans hs0.out hx0.size); clear hU hx hx0 p0 p1 p2 p3 p4 p5 p6 p7 p8 p9 p10 q0 q1 q2 q3 q4 q5 q6 q7 q8 q9 q10; obtain ⟨p0, p1, p2, p3, p4, p5, p6, p7, p8, p9, p10⟩ := X1.out.cells; obtain ⟨q0, q1, q2, q3, q4, q5, q6, q7, q8, q9, q10⟩ := X2.out.cells)
   refine hK _ _ ?_
   clear hK K
   refine wpAny_ready (rs := [3]) (by kernel_rfl) (by simp) ?_
   refine AllReady.cons (o := _) (by rfl) (fun K hK => ?_) AllReady.nil
   go_simp
   go_at_call 5; (refine (HFB.out _ _ (HXb.out _ Y3.out)).mono ?_; rintro e y ⟨Bg, mg, dg, Bp, mp, dp, Bc, mc, dc, Bh, mh, dh, rfl, hU, hx⟩; replace X1 := Go.Lib.hid (X1.out.keep hx); replace X2 := Go.Lib.hid (X2.out.keep hx); have Y4 := Go.Lib.hid (Y3.out.trans (hx.mono Y3.out.size)); replace U1 := Go.Lib.hid (U1.out.keep hx); have U2 := Go.Lib.hid (hU.lower (m := w.heap.size + 2) hs1.out); have KU := Go.Lib.hid X1.out.blk; have KN := Go.Lib.hid (show (y.setRow w.heap.size #[.slice Ag ng cg, .int .i64 q.at_.has, .int .i64 q.at_.origin, .slice Ap np cp, .int .u32 q.at_.hop, .int .u32 q.at_.med, .int .u32 q.at_.pref, .int .u32 q.at_.aas, .int .u32 q.at_.aid, .slice Ac nc cc, .slice Ah nh ch]).heap[w.heap.size + 1]? = some (.cells #[vg', .int .i64 b.at_.has, .int .i64 b.at_.origin, vp', .int .u32 b.at_.hop, .int .u32 b.at_.med, .int .u32 b.at_.pref, .int .u32 b.at_.aas, .int .u32 b.at_.aid, vc', vh'] 29 (0, 0)) from (setRow_other _ _ _ _ (by omega)).trans X2.out.blk); clear hU hx p0 p1 p2 p3 p4 p5 p6 p7 p8 p9 p10 q0 q1 q2 q3 q4 q5 q6 q7 q8 q9 q10)
   refine hK _ _ ?_
   clear hK K
   refine wpAny_ready (rs := [4]) (by kernel_rfl) (by simp) ?_
   refine AllReady.cons (o := _) (by rfl) (fun K hK => ?_) AllReady.nil
   rw [if_pos (by rfl)]
   refine wp_store_row 29 (.tmp 2) (.tmp 11) rfl w.heap.size #[.slice Ag ng cg, .int .i64 q.at_.has, .int .i64 q.at_.origin, .slice Ap np cp, .int .u32 q.at_.hop, .int .u32 q.at_.med, .int .u32 q.at_.pref, .int .u32 q.at_.aas, .int .u32 q.at_.aid, .slice Ac nc cc, .slice Ah nh ch] rfl rfl _ _ KU.out (by kernel_rfl) rfl (by simp [Value.oneCell']) ?_
   refine hK _ _ ?_
   clear hK K
   refine wpAny_ready (rs := [5]) (by kernel_rfl) (by simp) ?_
   refine AllReady.cons (o := _) (by rfl) (fun K hK => ?_) AllReady.nil
   rw [if_pos (by rfl)]
   refine wp_store_row 29 (.tmp 3) (.tmp 13) rfl (w.heap.size + 1) #[.slice Bg mg dg, .int .i64 r.at_.has, .int .i64 r.at_.origin, .slice Bp mp dp, .int .u32 r.at_.hop, .int .u32 r.at_.med, .int .u32 r.at_.pref, .int .u32 r.at_.aas, .int .u32 r.at_.aid, .slice Bc mc dc, .slice Bh mh dh] rfl rfl _ _ KN.out (by kernel_rfl) rfl (by simp [Value.oneCell']) ?_
   refine hK _ _ ?_
   clear hK K
   refine wpAny_done (by kernel_rfl) ?_ _
   go_wp2_with fail
   go_meet
   exact ⟨Ag, ng, cg, Ap, np, cp, Ac, nc, cc, Ah, nh, ch, Bg, mg, dg, Bp, mp, dp, Bc, mc, dc, Bh, mh, dh, Go.Lib.hid (kept_two X1.out X2.out U1.out U2.out Y4.out)⟩
 case rest =>
 obtain ⟨Ag, ng, cg, Ap, np, cp, Ac, nc, cc, Ah, nh, ch, Bg, mg, dg, Bp, mp, dp, Bc, mc, dc, Bh, mh, dh, ST⟩ := hcut
 generalize wc = wk at ST ⊢
 clear HFA HFB HXa HXb X1 X2 X3 hs0
 have BW := Go.Lib.hid (Below.refl wk.heap.size wk)
 have HKB := Go.Lib.hid (fun (W : World) (h : Below wk.heap.size wk W) => (ST.out.1.below h).bu.cells)
 have HKC := Go.Lib.hid (fun (W : World) (h : Below wk.heap.size wk W) => (ST.out.2.1.below h).bu.cells)
 unfold UCells at HKB HKC
 have HKA := Go.Lib.hid (fun (W : World) (h : Below wk.heap.size wk W) => (ST.out.1.below h).up)
 have HKR := Go.Lib.hid (fun (W : World) (h : Below wk.heap.size wk W) => (ST.out.2.1.below h).up)
 have HF := Go.Lib.hid (fun (v : Value) (W : World) (h : Upds W v q) => show Calls Tryz.prog 5 #[v] W (fun e w' => ∃ (Ag : Option Addr) (ng cg : Nat) (Ap : Option Addr) (np cp : Nat) (Ac : Option Addr) (nc cc : Nat) (Ah : Option Addr) (nh ch : Nat), e = .returned (.agg #[.slice Ag ng cg, .int .i64 q.at_.has, .int .i64 q.at_.origin, .slice Ap np cp, .int .u32 q.at_.hop, .int .u32 q.at_.med, .int .u32 q.at_.pref, .int .u32 q.at_.aas, .int .u32 q.at_.aid, .slice Ac nc cc, .slice Ah nh ch]) ∧ UpdF W.heap.size w' (uV q.at_ (.slice Ag ng cg) (.slice Ap np cp) (.slice Ac nc cc) (.slice Ah nh ch)) q ∧ Below W.heap.size W w') from by
  have h1 := few10_any v q W h
  rw [HQ.out.2.2.2] at h1
  exact h1.mono fun _ _ h2 => fewU_of h2)
 have HFR := Go.Lib.hid (fun (v : Value) (W : World) (h : Upds W v r) => show Calls Tryz.prog 5 #[v] W (fun e w' => ∃ (Ag : Option Addr) (ng cg : Nat) (Ap : Option Addr) (np cp : Nat) (Ac : Option Addr) (nc cc : Nat) (Ah : Option Addr) (nh ch : Nat), e = .returned (.agg #[.slice Ag ng cg, .int .i64 r.at_.has, .int .i64 r.at_.origin, .slice Ap np cp, .int .u32 r.at_.hop, .int .u32 r.at_.med, .int .u32 r.at_.pref, .int .u32 r.at_.aas, .int .u32 r.at_.aid, .slice Ac nc cc, .slice Ah nh ch]) ∧ UpdF W.heap.size w' (uV r.at_ (.slice Ag ng cg) (.slice Ap np cp) (.slice Ac nc cc) (.slice Ah nh ch)) r ∧ Below W.heap.size W w') from by
  have h1 := few10_any v r W h
  rw [HR.out.2.2.2] at h1
  exact h1.mono fun _ _ h2 => fewU_of h2)
 have HSH := Go.Lib.hid (fun (W : World) (h : Below wk.heap.size wk W) => HS.out.keep (ST.out.2.2.trans (h.mono ST.out.2.2.size)))
 have CLV := Go.Lib.hid (fun (W : World) (h : Below wk.heap.size wk W) => lives10_any W (HSH.out W h))
 have CSZ := Go.Lib.hid (fun v W (h : Upds W v q) (h2 : Below wk.heap.size wk W) => usize_any v q W h (HSH.out W h2) HQ.out.1.ln (Nat.le_trans HQ.out.2.1 (by decide)) (Nat.le_trans HQ.out.2.2.1 (by decide)))
 have CG := Go.Lib.hid (fun v W (h : Upds W v q) => ugood_any v q W h HQ.out.1.ln)
 have CRG := Go.Lib.hid (fun v W (h : Upds W v q) => rgood_any v q W h (Nat.le_trans HQ.out.1.bk (by decide)) HQ.out.1.ln (fit_more HQ.out.1.fit (by decide)) (Nat.le_trans HQ.out.1.cm (by decide)))
 have CS := Go.Lib.hid (fun va vb W (h1 : Upds W va q) (h2 : Upds W vb r) => usame_any va vb q r W h1 h2)
 have CRS := Go.Lib.hid (fun va vb W (h1 : Upds W va q) (h2 : Upds W vb r) => rsame_any va vb q r W h1 h2)
 have HGR := Go.Lib.hid (fun hg : goodU q = true => goodR_of (ST.out.1.up.choose_spec.choose_spec.choose_spec.choose_spec.2.2.1) (goodU_at hg).2.2)
 have HSM := Go.Lib.hid (fun hg : goodU q = true => And.intro (encU_small hg (encA_small (HGR.out hg))) (encA_small (HGR.out hg)))
 obtain ⟨EB, er, hEW, hCE⟩ := uenc_all q HQ.out.1.ln (Nat.le_trans HQ.out.2.1 (by decide)) (Nat.le_trans HQ.out.2.2.1 (by decide)) HSM.out
 have HEW := Go.Lib.hid hEW
 have CE := Go.Lib.hid (fun v W (h : Upds W v q) (h2 : Below wk.heap.size wk W) => hCE v W h (HSH.out W h2))
 clear hEW hCE
 unfold uV at HKA HKR
 obtain ⟨g, hg⟩ : ∃ g, g = goodU q := ⟨_, rfl⟩
 rw [← hg] at CG CRG
 obtain ⟨sm, hsm⟩ : ∃ s, s = sameU q r := ⟨_, rfl⟩
 rw [← hsm] at CS CRS
 clear hsm
 have HG := Go.Lib.hid hg
 clear hg
 obtain ⟨p0, p1, p2, p3, p4, p5, p6, p7, p8, p9, p10⟩ := (HKB.out _ BW.out)
 obtain ⟨q0, q1, q2, q3, q4, q5, q6, q7, q8, q9, q10⟩ := (HKC.out _ BW.out)
 go_upto_region 3 with (first
  | (go_at_call 5; (refine (HF.out _ _ (HKA.out _ BW.out)).mono ?_; rintro e x ⟨Ag0, ng0, cg0, Ap0, np0, cp0, Ac0, nc0, cc0, Ah0, nh0, ch0, rfl, hU, hx⟩; have V0 := Go.Lib.hid hU.upds; clear hU; replace BW := Go.Lib.hid (BW.out.trans (hx.mono BW.out.size)); clear hx p0 p1 p2 p3 p4 p5 p6 p7 p8 p9 p10 q0 q1 q2 q3 q4 q5 q6 q7 q8 q9 q10; obtain ⟨p0, p1, p2, p3, p4, p5, p6, p7, p8, p9, p10⟩ := (HKB.out _ BW.out); obtain ⟨q0, q1, q2, q3, q4, q5, q6, q7, q8, q9, q10⟩ := (HKC.out _ BW.out)))
  | (go_at_call 6; (refine (CE.out _ _ V0.out BW.out).mono ?_; rintro e x5 ⟨A5, c5, rfl, hU, hx⟩; have U5 := Go.Lib.hid hU; replace BW := Go.Lib.hid (BW.out.trans (hx.mono BW.out.size)); clear hU hx p0 p1 p2 p3 p4 p5 p6 p7 p8 p9 p10 q0 q1 q2 q3 q4 q5 q6 q7 q8 q9 q10; obtain ⟨p0, p1, p2, p3, p4, p5, p6, p7, p8, p9, p10⟩ := (HKB.out _ BW.out); obtain ⟨q0, q1, q2, q3, q4, q5, q6, q7, q8, q9, q10⟩ := (HKC.out _ BW.out))))
 clear V0 p0 p1 p2 p3 p4 p5 p6 p7 p8 p9 p10 q0 q1 q2 q3 q4 q5 q6 q7 q8 q9 q10
 go_cut [36] (fun s36 wx => s36 = .bool false ∧ Hid (U8s wx (.slice A5 EB.length c5) EB ∧ Below wk.heap.size wk wx))
 case first =>
  replace U5 := Go.Lib.hid (U5.out.keep (Below.refl _ _).drew)
  replace BW := Go.Lib.hid (BW.out.drew)
  have HKK := Go.Lib.hid (fun (W : World) (h : Below wk.heap.size wk W) => And.intro (HKB.out W h) (HKC.out W h))
  refine wp_region_noPanic ?_
  refine wp_region_held_drew (S := (fun w' => (w'.cell? ⟨w.heap.size, 0, none⟩ = some (.slice Ag ng cg) ∧ w'.cell? ⟨w.heap.size, 1, none⟩ = some (.int .i64 q.at_.has) ∧ w'.cell? ⟨w.heap.size, 2, none⟩ = some (.int .i64 q.at_.origin) ∧ w'.cell? ⟨w.heap.size, 3, none⟩ = some (.slice Ap np cp) ∧ w'.cell? ⟨w.heap.size, 4, none⟩ = some (.int .u32 q.at_.hop) ∧ w'.cell? ⟨w.heap.size, 5, none⟩ = some (.int .u32 q.at_.med) ∧ w'.cell? ⟨w.heap.size, 6, none⟩ = some (.int .u32 q.at_.pref) ∧ w'.cell? ⟨w.heap.size, 7, none⟩ = some (.int .u32 q.at_.aas) ∧ w'.cell? ⟨w.heap.size, 8, none⟩ = some (.int .u32 q.at_.aid) ∧ w'.cell? ⟨w.heap.size, 9, none⟩ = some (.slice Ac nc cc) ∧ w'.cell? ⟨w.heap.size, 10, none⟩ = some (.slice Ah nh ch)) ∧ (w'.cell? ⟨(w.heap.size + 1), 0, none⟩ = some (.slice Bg mg dg) ∧ w'.cell? ⟨(w.heap.size + 1), 1, none⟩ = some (.int .i64 r.at_.has) ∧ w'.cell? ⟨(w.heap.size + 1), 2, none⟩ = some (.int .i64 r.at_.origin) ∧ w'.cell? ⟨(w.heap.size + 1), 3, none⟩ = some (.slice Bp mp dp) ∧ w'.cell? ⟨(w.heap.size + 1), 4, none⟩ = some (.int .u32 r.at_.hop) ∧ w'.cell? ⟨(w.heap.size + 1), 5, none⟩ = some (.int .u32 r.at_.med) ∧ w'.cell? ⟨(w.heap.size + 1), 6, none⟩ = some (.int .u32 r.at_.pref) ∧ w'.cell? ⟨(w.heap.size + 1), 7, none⟩ = some (.int .u32 r.at_.aas) ∧ w'.cell? ⟨(w.heap.size + 1), 8, none⟩ = some (.int .u32 r.at_.aid) ∧ w'.cell? ⟨(w.heap.size + 1), 9, none⟩ = some (.slice Bc mc dc) ∧ w'.cell? ⟨(w.heap.size + 1), 10, none⟩ = some (.slice Bh mh dh)))) (by kernel_rfl) (HKK.out _ BW.out) (fun hHeld => ?_)
  refine Take.tk 0 20 hHeld ?_
  refine Take.tk 3 23 hHeld ?_
  try simp only [Act.put, List.setIfInBounds_toArray, List.set_cons_zero, List.set_cons_succ]
  refine wpAnyH_ready (rs := [1]) (by kernel_rfl) (by simp) ?_
  refine AllReadyH.cons (o := _) (by rfl) (fun K1 hK => ?_) AllReadyH.nil
  go_simp
  go_at_call 5; (refine (HF.out _ _ (HKA.out _ BW.out)).mono ?_; rintro e x ⟨Ag1, ng1, cg1, Ap1, np1, cp1, Ac1, nc1, cc1, Ah1, nh1, ch1, rfl, hU, hx⟩; have V1 := Go.Lib.hid hU.upds; clear hU; replace U5 := Go.Lib.hid (U5.out.keep hx); replace BW := Go.Lib.hid (BW.out.trans (hx.mono BW.out.size)); clear hx)
  refine hK.out _ _ (HKK.out _ BW.out) (fun hH1 => ?_)
  clear hK K1
  try simp only [Act.put, List.setIfInBounds_toArray, List.set_cons_zero, List.set_cons_succ]
  refine wpAnyH_ready (rs := [2]) (by kernel_rfl) (by simp) ?_
  refine AllReadyH.cons (o := _) (by rfl) (fun K1 hK => ?_) AllReadyH.nil
  go_simp
  go_at_call 7; (refine (CG.out _ _ V1.out).mono ?_; rintro e x ⟨rfl, hx⟩; replace U5 := Go.Lib.hid (U5.out.keep hx); replace BW := Go.Lib.hid (BW.out.trans (hx.mono BW.out.size)); clear hx)
  refine hK.out _ _ (HKK.out _ BW.out) (fun hH2 => ?_)
  clear hK K1
  try simp only [Act.put, List.setIfInBounds_toArray, List.set_cons_zero, List.set_cons_succ]
  refine wpAnyH_ready (rs := [4]) (by kernel_rfl) (by simp) ?_
  refine AllReadyH.cons (o := _) (by rfl) (fun K1 hK => ?_) AllReadyH.nil
  go_simp
  go_at_call 8; (refine (CRG.out _ _ (HKA.out _ BW.out)).mono ?_; rintro e x ⟨rfl, hx⟩; replace U5 := Go.Lib.hid (U5.out.keep hx); replace BW := Go.Lib.hid (BW.out.trans (hx.mono BW.out.size)); clear hx)
  refine hK.out _ _ (HKK.out _ BW.out) (fun hH3 => ?_)
  clear hK K1
  try simp only [Act.put, List.setIfInBounds_toArray, List.set_cons_zero, List.set_cons_succ]
  refine Take.tk (v := .bool false) 5 25 hH3 ?_
  refine Take.tk (v := .bool false) 6 26 hH3 ?_
  try simp only [Act.put, List.setIfInBounds_toArray, List.set_cons_zero, List.set_cons_succ]
  refine Take.tk 7 27 hH3 ?_
  refine Take.tk 9 29 hH3 ?_
  refine Take.tk 12 32 hH3 ?_
  try simp only [Act.put, List.setIfInBounds_toArray, List.set_cons_zero, List.set_cons_succ]
  refine Take.tk 13 33 hH3 ?_
  try simp only [Act.put, List.setIfInBounds_toArray, List.set_cons_zero, List.set_cons_succ]
  refine wpAnyH_ready (rs := [8]) (by kernel_rfl) (by simp) ?_
  refine AllReadyH.cons (o := _) (by rfl) (fun K1 hK => ?_) AllReadyH.nil
  go_simp
  go_at_call 5; (refine (HF.out _ _ (HKA.out _ BW.out)).mono ?_; rintro e x ⟨Ag2, ng2, cg2, Ap2, np2, cp2, Ac2, nc2, cc2, Ah2, nh2, ch2, rfl, hU, hx⟩; have V2 := Go.Lib.hid hU.upds; clear hU; replace U5 := Go.Lib.hid (U5.out.keep hx); replace BW := Go.Lib.hid (BW.out.trans (hx.mono BW.out.size)); clear hx)
  refine hK.out _ _ (HKK.out _ BW.out) (fun hH4 => ?_)
  clear hK K1
  try simp only [Act.put, List.setIfInBounds_toArray, List.set_cons_zero, List.set_cons_succ]
  refine wpAnyH_ready (rs := [10]) (by kernel_rfl) (by simp) ?_
  refine AllReadyH.cons (o := _) (by rfl) (fun K1 hK => ?_) AllReadyH.nil
  go_simp
  go_at_call 5; (refine (HFR.out _ _ (HKR.out _ BW.out)).mono ?_; rintro e x ⟨Ag3, ng3, cg3, Ap3, np3, cp3, Ac3, nc3, cc3, Ah3, nh3, ch3, rfl, hU, hx⟩; have V3 := Go.Lib.hid hU.upds; clear hU; replace V2 := Go.Lib.hid (V2.out.keep hx); replace U5 := Go.Lib.hid (U5.out.keep hx); replace BW := Go.Lib.hid (BW.out.trans (hx.mono BW.out.size)); clear hx)
  refine hK.out _ _ (HKK.out _ BW.out) (fun hH5 => ?_)
  clear hK K1
  try simp only [Act.put, List.setIfInBounds_toArray, List.set_cons_zero, List.set_cons_succ]
  refine wpAnyH_ready (rs := [11]) (by kernel_rfl) (by simp) ?_
  refine AllReadyH.cons (o := _) (by rfl) (fun K1 hK => ?_) AllReadyH.nil
  go_simp
  go_at_call 9; (refine (CS.out _ _ _ V2.out V3.out).mono ?_; rintro e x ⟨rfl, hx⟩; replace U5 := Go.Lib.hid (U5.out.keep hx); replace BW := Go.Lib.hid (BW.out.trans (hx.mono BW.out.size)); clear hx)
  refine hK.out _ _ (HKK.out _ BW.out) (fun hH6 => ?_)
  clear hK K1
  try simp only [Act.put, List.setIfInBounds_toArray, List.set_cons_zero, List.set_cons_succ]
  refine wpAnyH_ready (rs := [14]) (by kernel_rfl) (by simp) ?_
  refine AllReadyH.cons (o := _) (by rfl) (fun K1 hK => ?_) AllReadyH.nil
  go_simp
  go_at_call 10; (refine (CRS.out _ _ _ (HKA.out _ BW.out) (HKR.out _ BW.out)).mono ?_; rintro e x ⟨rfl, hx⟩; replace U5 := Go.Lib.hid (U5.out.keep hx); replace BW := Go.Lib.hid (BW.out.trans (hx.mono BW.out.size)); clear hx)
  refine hK.out _ _ (HKK.out _ BW.out) (fun hH7 => ?_)
  clear hK K1
  try simp only [Act.put, List.setIfInBounds_toArray, List.set_cons_zero, List.set_cons_succ]
  refine Take.tk (v := .bool false) 15 35 hH7 ?_
  refine Take.tk (v := .bool false) 16 36 hH7 ?_
  refine wpAnyH_done (by kernel_rfl) ?_ _
  refine NoPanic.normal ?_
  go_wp2
  go_meet
  exact ⟨rfl, Go.Lib.hid ⟨U5.out, BW.out⟩⟩
 case rest =>
 obtain ⟨rfl, hUB⟩ := hcut
 clear BW U5 HFR HKR CS CRS CG CE
 have U5 := Go.Lib.hid hUB.out.1
 have BW := Go.Lib.hid hUB.out.2
 clear hUB
 have T0 := Go.Lib.hid True.intro
 obtain ⟨p0, p1, p2, p3, p4, p5, p6, p7, p8, p9, p10⟩ := (HKB.out _ BW.out)
 obtain ⟨q0, q1, q2, q3, q4, q5, q6, q7, q8, q9, q10⟩ := (HKC.out _ BW.out)
 rcases HEW.out with ⟨hgu, rfl, rfl⟩ | ⟨hgu, hE, rfl, rfl⟩ | ⟨hgu, hE, rfl, rfl⟩
 ·rw [show sizeU q = 0 by unfold sizeU; rw [hgu]; rfl] at CSZ
  rw [HG.out, hgu] at CRG
  clear hgu HEW HG
  dsimp only [List.length_nil] at U5 ⊢
  go_wp2_with (first
   | (have tok := T0.out; go_at_call 8; (refine (CRG.out _ _ (HKA.out _ BW.out)).mono ?_; rintro e x0 ⟨rfl, hx⟩; replace BW := Go.Lib.hid (BW.out.trans (hx.mono BW.out.size)); clear hx tok T0; clear p0 p1 p2 p3 p4 p5 p6 p7 p8 p9 p10 q0 q1 q2 q3 q4 q5 q6 q7 q8 q9 q10; obtain ⟨p0, p1, p2, p3, p4, p5, p6, p7, p8, p9, p10⟩ := (HKB.out _ BW.out); obtain ⟨q0, q1, q2, q3, q4, q5, q6, q7, q8, q9, q10⟩ := (HKC.out _ BW.out); have T1 := Go.Lib.hid True.intro))
   | (have tok := T1.out; go_at_call 5; (refine (HF.out _ _ (HKA.out _ BW.out)).mono ?_; rintro e x1 ⟨Ag1, ng1, cg1, Ap1, np1, cp1, Ac1, nc1, cc1, Ah1, nh1, ch1, rfl, hU, hx⟩; have V1 := Go.Lib.hid hU.upds; clear hU; replace BW := Go.Lib.hid (BW.out.trans (hx.mono BW.out.size)); clear hx tok T1; clear p0 p1 p2 p3 p4 p5 p6 p7 p8 p9 p10 q0 q1 q2 q3 q4 q5 q6 q7 q8 q9 q10; obtain ⟨p0, p1, p2, p3, p4, p5, p6, p7, p8, p9, p10⟩ := (HKB.out _ BW.out); obtain ⟨q0, q1, q2, q3, q4, q5, q6, q7, q8, q9, q10⟩ := (HKC.out _ BW.out); have T2 := Go.Lib.hid True.intro))
   | (have tok := T2.out; go_at_call 11; (refine (CSZ.out _ _ V1.out BW.out).mono ?_; rintro e x2 ⟨rfl, hx⟩; replace BW := Go.Lib.hid (BW.out.trans (hx.mono BW.out.size)); clear hx tok T2; clear p0 p1 p2 p3 p4 p5 p6 p7 p8 p9 p10 q0 q1 q2 q3 q4 q5 q6 q7 q8 q9 q10; obtain ⟨p0, p1, p2, p3, p4, p5, p6, p7, p8, p9, p10⟩ := (HKB.out _ BW.out); obtain ⟨q0, q1, q2, q3, q4, q5, q6, q7, q8, q9, q10⟩ := (HKC.out _ BW.out); have T3 := Go.Lib.hid True.intro))
   | (have tok := T3.out; go_at_call 12; (refine (CLV.out _ BW.out).mono ?_; rintro e x3 ⟨rfl, hx⟩; replace BW := Go.Lib.hid (BW.out.trans (hx.mono BW.out.size)); clear hx tok T3; clear p0 p1 p2 p3 p4 p5 p6 p7 p8 p9 p10 q0 q1 q2 q3 q4 q5 q6 q7 q8 q9 q10; obtain ⟨p0, p1, p2, p3, p4, p5, p6, p7, p8, p9, p10⟩ := (HKB.out _ BW.out); obtain ⟨q0, q1, q2, q3, q4, q5, q6, q7, q8, q9, q10⟩ := (HKC.out _ BW.out); have T4 := Go.Lib.hid True.intro)))
  go_ret
  exact ⟨rfl, ST.out.2.2.trans (BW.out.mono ST.out.2.2.size)⟩
 ·rw [show sizeU q = (encU q).length by unfold sizeU; rw [if_pos hgu]] at CSZ
  rw [HG.out, hgu] at CRG
  have CRE := Go.Lib.hid (fun v W (h : Upds W v q) => rencode_any v q W h hgu (Nat.le_trans HQ.out.2.1 (by decide)) (Nat.le_trans HQ.out.2.2.1 (by decide)) (HSM.out hgu).2)
  obtain ⟨L, hL⟩ : ∃ L, L = encU q := ⟨_, rfl⟩
  rw [← hL] at CSZ CRE hE
  have y1 : (L.length : Int) > 4077 := by omega
  clear hgu HEW HG HSM HGR hL
  dsimp only [List.length_nil] at U5 ⊢
  go_wp2_with (first
   | (have tok := T0.out; go_at_call 8; (refine (CRG.out _ _ (HKA.out _ BW.out)).mono ?_; rintro e x0 ⟨rfl, hx⟩; replace BW := Go.Lib.hid (BW.out.trans (hx.mono BW.out.size)); clear hx tok T0; clear p0 p1 p2 p3 p4 p5 p6 p7 p8 p9 p10 q0 q1 q2 q3 q4 q5 q6 q7 q8 q9 q10; obtain ⟨p0, p1, p2, p3, p4, p5, p6, p7, p8, p9, p10⟩ := (HKB.out _ BW.out); obtain ⟨q0, q1, q2, q3, q4, q5, q6, q7, q8, q9, q10⟩ := (HKC.out _ BW.out); have T1 := Go.Lib.hid True.intro))
   | (have tok := T1.out; go_at_call 13; (refine (CRE.out _ _ (HKA.out _ BW.out)).mono ?_; rintro e x1 ⟨A2, c2, rfl, ho, hx⟩; clear ho; replace BW := Go.Lib.hid (BW.out.trans (hx.mono BW.out.size)); clear hx tok T1; clear p0 p1 p2 p3 p4 p5 p6 p7 p8 p9 p10 q0 q1 q2 q3 q4 q5 q6 q7 q8 q9 q10; obtain ⟨p0, p1, p2, p3, p4, p5, p6, p7, p8, p9, p10⟩ := (HKB.out _ BW.out); obtain ⟨q0, q1, q2, q3, q4, q5, q6, q7, q8, q9, q10⟩ := (HKC.out _ BW.out); have T2 := Go.Lib.hid True.intro))
   | (have tok := T2.out; go_at_call 5; (refine (HF.out _ _ (HKA.out _ BW.out)).mono ?_; rintro e x2 ⟨Ag1, ng1, cg1, Ap1, np1, cp1, Ac1, nc1, cc1, Ah1, nh1, ch1, rfl, hU, hx⟩; have V1 := Go.Lib.hid hU.upds; clear hU; replace BW := Go.Lib.hid (BW.out.trans (hx.mono BW.out.size)); clear hx tok T2; clear p0 p1 p2 p3 p4 p5 p6 p7 p8 p9 p10 q0 q1 q2 q3 q4 q5 q6 q7 q8 q9 q10; obtain ⟨p0, p1, p2, p3, p4, p5, p6, p7, p8, p9, p10⟩ := (HKB.out _ BW.out); obtain ⟨q0, q1, q2, q3, q4, q5, q6, q7, q8, q9, q10⟩ := (HKC.out _ BW.out); have T3 := Go.Lib.hid True.intro))
   | (have tok := T3.out; go_at_call 11; (refine (CSZ.out _ _ V1.out BW.out).mono ?_; rintro e x3 ⟨rfl, hx⟩; replace BW := Go.Lib.hid (BW.out.trans (hx.mono BW.out.size)); clear hx tok T3; clear p0 p1 p2 p3 p4 p5 p6 p7 p8 p9 p10 q0 q1 q2 q3 q4 q5 q6 q7 q8 q9 q10; obtain ⟨p0, p1, p2, p3, p4, p5, p6, p7, p8, p9, p10⟩ := (HKB.out _ BW.out); obtain ⟨q0, q1, q2, q3, q4, q5, q6, q7, q8, q9, q10⟩ := (HKC.out _ BW.out); have T4 := Go.Lib.hid True.intro))
   | (have tok := T4.out; go_at_call 12; (refine (CLV.out _ BW.out).mono ?_; rintro e x4 ⟨rfl, hx⟩; replace BW := Go.Lib.hid (BW.out.trans (hx.mono BW.out.size)); clear hx tok T4; clear p0 p1 p2 p3 p4 p5 p6 p7 p8 p9 p10 q0 q1 q2 q3 q4 q5 q6 q7 q8 q9 q10; obtain ⟨p0, p1, p2, p3, p4, p5, p6, p7, p8, p9, p10⟩ := (HKB.out _ BW.out); obtain ⟨q0, q1, q2, q3, q4, q5, q6, q7, q8, q9, q10⟩ := (HKC.out _ BW.out); have T5 := Go.Lib.hid True.intro)))
  go_ret
  exact ⟨rfl, ST.out.2.2.trans (BW.out.mono ST.out.2.2.size)⟩
 ·rw [show sizeU q = (encU q).length by unfold sizeU; rw [if_pos hgu]] at CSZ
  rw [HG.out, hgu] at CRG
  have CRE := Go.Lib.hid (fun v W (h : Upds W v q) => rencode_any v q W h hgu (Nat.le_trans HQ.out.2.1 (by decide)) (Nat.le_trans HQ.out.2.2.1 (by decide)) (HSM.out hgu).2)
  have HES := Go.Lib.hid (HSM.out hgu).1
  obtain ⟨m, hm⟩ : ∃ m, m = noneN := ⟨_, rfl⟩
  have hde : outU (decU (encU q)) = (q, m) := by
   obtain ⟨k1, k2, k3, k4, k5, k6, k7, k8⟩ := ST.out.1.up
   rw [dec_encU hgu k6.2 k8.2 (fun _ => HGR.out hgu) hE, hm]
   rfl
  have CD := Go.Lib.hid (fun v W (h : U8s W v (encU q)) (h2 : Below wk.heap.size wk W) => (udec_any v (encU q) W h (by omega) (HSH.out W h2)).mono fun _ _ h3 => decU_of hde h3)
  have CS2 := Go.Lib.hid (fun va vb W (h1 : Upds W va q) (h2 : Upds W vb q) => show Calls Tryz.prog 10 #[va, vb] W (Tells (.bool true) W) from by
   have h3 := rsame_any va vb q q W h1 h2
   rw [show sameU q q = true from sameU_iff.2 rfl] at h3
   exact h3)
  have CT := Go.Lib.hid (fun va vb W (h1 : Note W va m) (h2 : Note W vb noneN) => show Calls Tryz.prog 15 #[va, vb] W (Tells (.bool true) W) from by
   rw [hm] at h1
   have h3 := told_any va vb noneN noneN W h1 h2
   rw [sameN_iff.2 rfl] at h3
   exact h3)
  obtain ⟨L, hL⟩ : ∃ L, L = encU q := ⟨_, rfl⟩
  rw [← hL] at CSZ CRE hE HES U5 CD ⊢
  have y1 : decide ((L.length : Int) > 4077) = false := decide_eq_false (by omega)
  obtain ⟨i0, E0⟩ := elem8
  clear hgu HEW HG HSM HGR hL hm hde
  go_wp2_with (first
   | (have tok := T0.out; go_at_call 8; (refine (CRG.out _ _ (HKA.out _ BW.out)).mono ?_; rintro e x0 ⟨rfl, hx⟩; replace BW := Go.Lib.hid (BW.out.trans (hx.mono BW.out.size)); replace U5 := Go.Lib.hid (U5.out.keep hx); clear hx tok T0; clear p0 p1 p2 p3 p4 p5 p6 p7 p8 p9 p10 q0 q1 q2 q3 q4 q5 q6 q7 q8 q9 q10; obtain ⟨p0, p1, p2, p3, p4, p5, p6, p7, p8, p9, p10⟩ := (HKB.out _ BW.out); obtain ⟨q0, q1, q2, q3, q4, q5, q6, q7, q8, q9, q10⟩ := (HKC.out _ BW.out); have T1 := Go.Lib.hid True.intro))
   | (have tok := T1.out; go_at_call 13; (refine (CRE.out _ _ (HKA.out _ BW.out)).mono ?_; rintro e x1 ⟨A2, c2, rfl, ho, hx⟩; have HU2 := Go.Lib.hid (U8s.of_own ho HES.out); clear ho; replace BW := Go.Lib.hid (BW.out.trans (hx.mono BW.out.size)); replace U5 := Go.Lib.hid (U5.out.keep hx); clear hx tok T1; clear p0 p1 p2 p3 p4 p5 p6 p7 p8 p9 p10 q0 q1 q2 q3 q4 q5 q6 q7 q8 q9 q10; obtain ⟨p0, p1, p2, p3, p4, p5, p6, p7, p8, p9, p10⟩ := (HKB.out _ BW.out); obtain ⟨q0, q1, q2, q3, q4, q5, q6, q7, q8, q9, q10⟩ := (HKC.out _ BW.out); have T2 := Go.Lib.hid True.intro))
   | (have tok := T2.out; go_at_call 5; (refine (HF.out _ _ (HKA.out _ BW.out)).mono ?_; rintro e x2 ⟨Ag1, ng1, cg1, Ap1, np1, cp1, Ac1, nc1, cc1, Ah1, nh1, ch1, rfl, hU, hx⟩; have V1 := Go.Lib.hid hU.upds; clear hU; replace BW := Go.Lib.hid (BW.out.trans (hx.mono BW.out.size)); replace U5 := Go.Lib.hid (U5.out.keep hx); replace HU2 := Go.Lib.hid (HU2.out.keep hx); clear hx tok T2; clear p0 p1 p2 p3 p4 p5 p6 p7 p8 p9 p10 q0 q1 q2 q3 q4 q5 q6 q7 q8 q9 q10; obtain ⟨p0, p1, p2, p3, p4, p5, p6, p7, p8, p9, p10⟩ := (HKB.out _ BW.out); obtain ⟨q0, q1, q2, q3, q4, q5, q6, q7, q8, q9, q10⟩ := (HKC.out _ BW.out); have T3 := Go.Lib.hid True.intro))
   | (have tok := T3.out; go_at_call 11; (refine (CSZ.out _ _ V1.out BW.out).mono ?_; rintro e x3 ⟨rfl, hx⟩; replace BW := Go.Lib.hid (BW.out.trans (hx.mono BW.out.size)); replace U5 := Go.Lib.hid (U5.out.keep hx); replace HU2 := Go.Lib.hid (HU2.out.keep hx); clear hx tok T3; clear p0 p1 p2 p3 p4 p5 p6 p7 p8 p9 p10 q0 q1 q2 q3 q4 q5 q6 q7 q8 q9 q10; obtain ⟨p0, p1, p2, p3, p4, p5, p6, p7, p8, p9, p10⟩ := (HKB.out _ BW.out); obtain ⟨q0, q1, q2, q3, q4, q5, q6, q7, q8, q9, q10⟩ := (HKC.out _ BW.out); have T4 := Go.Lib.hid True.intro))
   | (have tok := T4.out; at_builtin; (refine wpList_append_row rfl (.tmp 78) (.tmp 79) rfl E0 x3.heap.size _ 0 [] rfl (own_blk (Nat.le_refl _) (heap_alloc_new _ _)) _ L.length (cells8 L) rfl ((HU2.out.keep ((Below.refl _ x3).alloc (Nat.le_refl _) _)).1) (ones8 _) (by unfold maxLen; omega) (by omega) (by simp) L.length (Nat.zero_add _) ?_; intro A3 kap3 x4 hown hgr hat hb; have HU3 := Go.Lib.hid (U8s.of_own (l := L) hown HES.out); have hx := ((Below.refl _ x3).alloc (Nat.le_refl _) (.cells #[] 5)).trans hb; clear hown hgr hat hb; replace BW := Go.Lib.hid (BW.out.trans (hx.mono BW.out.size)); replace U5 := Go.Lib.hid (U5.out.keep hx); replace HU2 := Go.Lib.hid (HU2.out.keep hx); clear hx tok T4; clear p0 p1 p2 p3 p4 p5 p6 p7 p8 p9 p10 q0 q1 q2 q3 q4 q5 q6 q7 q8 q9 q10; obtain ⟨p0, p1, p2, p3, p4, p5, p6, p7, p8, p9, p10⟩ := (HKB.out _ BW.out); obtain ⟨q0, q1, q2, q3, q4, q5, q6, q7, q8, q9, q10⟩ := (HKC.out _ BW.out); have T5 := Go.Lib.hid True.intro))
   | (have tok := T5.out; go_at_call 14; (refine (CD.out _ _ HU3.out BW.out).mono ?_; rintro e x5 ⟨Dg, kg, eg, Dp, kp, ep, Dc, kc, ec, Dh, kh, eh, Ad, nd, cd, rfl, hU, hN, hx7⟩; have TT := read10 hU hN; have R3 := Go.Lib.hid TT.1; have hx := hx7.trans (TT.2.mono hx7.size); have KA := Go.Lib.hid (new10_11 x5); have KB := Go.Lib.hid (new10_3 x5 #[.slice Dg kg eg, .int .i64 q.at_.has, .int .i64 q.at_.origin, .slice Dp kp ep, .int .u32 q.at_.hop, .int .u32 q.at_.med, .int .u32 q.at_.pref, .int .u32 q.at_.aas, .int .u32 q.at_.aid, .slice Dc kc ec, .slice Dh kh eh]); clear hU hN TT hx7; replace BW := Go.Lib.hid (BW.out.trans (hx.mono BW.out.size)); replace U5 := Go.Lib.hid (U5.out.keep hx); replace HU2 := Go.Lib.hid (HU2.out.keep hx); unfold new10 at R3 BW U5 HU2 KA KB; clear hx tok T5; clear p0 p1 p2 p3 p4 p5 p6 p7 p8 p9 p10 q0 q1 q2 q3 q4 q5 q6 q7 q8 q9 q10; obtain ⟨p0, p1, p2, p3, p4, p5, p6, p7, p8, p9, p10⟩ := (HKB.out _ BW.out); obtain ⟨q0, q1, q2, q3, q4, q5, q6, q7, q8, q9, q10⟩ := (HKC.out _ BW.out); obtain ⟨e0, e1, e2, e3, e4, e5, e6, e7, e8, e9, e10⟩ := R3.out.bu.cells; obtain ⟨g0, g1, g2⟩ := R3.out.b3.cells; have t1 := text8 U5.out; have t2 := text8 HU2.out; have T6 := Go.Lib.hid True.intro))
   | (have h := KA.out; refine wpList_store_row rfl 29 (.tmp 8) (.tmp 82) rfl x5.heap.size #[.slice Dg kg eg, .int .i64 q.at_.has, .int .i64 q.at_.origin, .slice Dp kp ep, .int .u32 q.at_.hop, .int .u32 q.at_.med, .int .u32 q.at_.pref, .int .u32 q.at_.aas, .int .u32 q.at_.aid, .slice Dc kc ec, .slice Dh kh eh] rfl rfl _ _ h (by kernel_rfl) rfl (by simp [Value.oneCell']) ?_; clear h; clear KA)
   | (have h := KB.out; refine wpList_store_row rfl 41 (.tmp 9) (.tmp 83) rfl (x5.heap.size + 1) #[.int .i64 m.code, .int .i64 m.sub, .slice Ad nd cd] rfl rfl _ _ h (by kernel_rfl) rfl (by simp [Value.oneCell']) ?_; clear h; clear KB)
   | (have tok := T6.out; go_at_call 10; (refine (CS2.out _ _ _ R3.out.up (HKA.out _ BW.out)).mono ?_; rintro e x6 ⟨rfl, hx⟩; replace BW := Go.Lib.hid (BW.out.trans (hx.mono BW.out.size)); replace R3 := Go.Lib.hid (R3.out.keep hx); clear e0 e1 e2 e3 e4 e5 e6 e7 e8 e9 e10 g0 g1 g2 t1 t2; obtain ⟨g0, g1, g2⟩ := R3.out.b3.cells; clear hx tok T6; clear p0 p1 p2 p3 p4 p5 p6 p7 p8 p9 p10 q0 q1 q2 q3 q4 q5 q6 q7 q8 q9 q10; obtain ⟨p0, p1, p2, p3, p4, p5, p6, p7, p8, p9, p10⟩ := (HKB.out _ BW.out); obtain ⟨q0, q1, q2, q3, q4, q5, q6, q7, q8, q9, q10⟩ := (HKC.out _ BW.out); have T7 := Go.Lib.hid True.intro))
   | (have tok := T7.out; go_at_call 15; (refine (CT.out _ _ _ R3.out.no (note_zero _)).mono ?_; rintro e x7 ⟨rfl, hx⟩; replace BW := Go.Lib.hid (BW.out.trans (hx.mono BW.out.size)); clear hx tok T7; clear p0 p1 p2 p3 p4 p5 p6 p7 p8 p9 p10 q0 q1 q2 q3 q4 q5 q6 q7 q8 q9 q10; obtain ⟨p0, p1, p2, p3, p4, p5, p6, p7, p8, p9, p10⟩ := (HKB.out _ BW.out); obtain ⟨q0, q1, q2, q3, q4, q5, q6, q7, q8, q9, q10⟩ := (HKC.out _ BW.out); have T8 := Go.Lib.hid True.intro))
   | (have tok := T8.out; go_at_call 12; (refine (CLV.out _ BW.out).mono ?_; rintro e x8 ⟨rfl, hx⟩; replace BW := Go.Lib.hid (BW.out.trans (hx.mono BW.out.size)); clear hx tok T8; clear p0 p1 p2 p3 p4 p5 p6 p7 p8 p9 p10 q0 q1 q2 q3 q4 q5 q6 q7 q8 q9 q10; obtain ⟨p0, p1, p2, p3, p4, p5, p6, p7, p8, p9, p10⟩ := (HKB.out _ BW.out); obtain ⟨q0, q1, q2, q3, q4, q5, q6, q7, q8, q9, q10⟩ := (HKC.out _ BW.out); have T9 := Go.Lib.hid True.intro)))
  go_ret
  exact ⟨rfl, ST.out.2.2.trans (BW.out.mono ST.out.2.2.size)⟩
end Go.Proofs.YtlhdjdnflpilbaaGreatDoor.Upd
