/- The laws' small living call: an origin's bytes. Attributes in a box, as a law keeps them. AttrForms: the law's walk. -/
import Derived.Test.YtanmepgplpijkaaDoorH41
import Derived.Test.YtanmepgplpijkaaDoorH45
import Derived.Test.YtanmepgplpijkaaDoorH39
import Derived.Test.YtanmepgplpijkaaDoorH06
import Derived.Test.YtanmepgplpijkaaDoorH21
import Derived.Deep.DeepCutAuto
namespace Go.Proofs.YtanmepgplpijkaaDoor.Att
open Go.RowKit Mem Segm Oct Seg
def a2 : At := ⟨2, 0, [], 0, 0, 0, 0, 0, []⟩
theorem good_a2 : goodA a2 = true := by decide +kernel
theorem enc_a2 : encA a2 = [64, 1, 1, 0] := by decide +kernel
theorem dec_a2 : outA (decodeA [64, 1, 1, 2]) = (⟨2, 2, [], 0, 0, 0, 0, 0, []⟩, noneN) := by kernel_rfl
theorem own_lit8 (w : World) : U8s (w.alloc (.cells #[.int .u8 64, .int .u8 1, .int .u8 1, .int .u8 2] 5)) (.slice (some ⟨w.heap.size, 0, none⟩) 4 4) [64, 1, 1, 2] :=
  U8s.of_own (base := w.heap.size) (World.ownsRow_lit (base := w.heap.size) (e := 5) (size := 1) w #[.int .u8 64, .int .u8 1, .int .u8 1, .int .u8 2] 4 (Nat.le_refl _) (by decide) rfl) (by unfold Small; decide)
set_option maxRecDepth 100000 in
set_option maxHeartbeats 2000000 in
theorem lives8_any (w : World) (hS : Shp w) : Calls Tryd.prog 20 #[] w (Tells (.bool true) w) := by
  have CE := Go.Lib.hid (show Calls Tryd.prog 43 #[.agg #[.int .i64 2, .int .i64 0, .slice none 0 0, .int .u32 0, .int .u32 0, .int .u32 0, .int .u32 0, .int .u32 0, .slice none 0 0]] w (fun e w' => ∃ A c, e = .returned (.tuple #[.slice A 4 c, .int .i64 0]) ∧ U8s w' (.slice A 4 c) [64, 1, 1, 0] ∧ Below w.heap.size w w') from
    (encode_any _ a2 w ⟨⟨by decide, by decide, by decide, by decide, by decide, by decide, by decide⟩, _, _, rfl, ⟨[], Row.nil w 2, Nums32.nil w⟩, U32s.nil w⟩ hS (by decide)).mono fun e w' h => by
      rcases h with ⟨h1, _⟩ | ⟨_, A, c, h1, h2, h3⟩
      · rw [good_a2] at h1; cases h1
      · rw [enc_a2] at h1 h2
        exact ⟨A, c, h1, U8s.of_own h2 (by unfold Small; decide), h3⟩)
  have CD := Go.Lib.hid (fun (W : World) (hb : Below w.heap.size w W) => show Calls Tryd.prog 22 #[.slice (some ⟨W.heap.size, 0, none⟩) 4 4] (W.alloc (.cells #[.int .u8 64, .int .u8 1, .int .u8 1, .int .u8 2] 5)) (fun e w' => ∃ vp vc vd, e = .returned (.tuple #[.agg #[.int .i64 2, .int .i64 2, vp, .int .u32 0, .int .u32 0, .int .u32 0, .int .u32 0, .int .u32 0, vc], .agg #[.int .i64 0, .int .i64 0, vd]]) ∧ (∃ A n c, vp = .slice A n c) ∧ (∃ A n c, vc = .slice A n c) ∧ (∃ A n c, vd = .slice A n c) ∧ Below W.heap.size W w') from
    (decode_p _ [64, 1, 1, 2] _ (own_lit8 W) (by decide) (hS.keep (hb.alloc hb.size _))).mono fun e w' h => by
      obtain ⟨va, vn, h1, h2, h3, h4⟩ := h
      rw [dec_a2] at h2 h3
      obtain ⟨-, vp, vc, rfl, hP, hC⟩ := h2
      obtain ⟨vd, rfl, hd⟩ := note_form h3
      obtain ⟨Ap, cp, rfl, -, -⟩ := hP.form
      obtain ⟨Ac, cc, rfl, -, -, -, -⟩ := hC.open_
      obtain ⟨Ad, cd, rfl, -, -⟩ := hd.form
      have k : Below W.heap.size W (W.alloc (.cells #[.int .u8 64, .int .u8 1, .int .u8 1, .int .u8 2] 5)) := (Below.refl _ _).alloc (Nat.le_refl _) _
      exact ⟨_, _, _, h1, ⟨_, _, _, rfl⟩, ⟨_, _, _, rfl⟩, ⟨_, _, _, rfl⟩, k.trans (h4.mono k.size)⟩)
  clear hS
  have hs : ((txt [64, 1, 1, 0]).toList == ([64, 1, 1, 0] : List UInt8)) = true := by rw [txt_list]; decide
  go_enter Tryd.func20, Tryd.ntmps20
  go_wp2_with (first
    | (go_at_call 43; refine (CE.out).mono ?_; rintro e w1 ⟨A, c, rfl, hU, hb⟩; have B1 := Go.Lib.hid hb; have U1 := Go.Lib.hid hU; clear hU hb)
    | (go_at_call 22; first | (refine (CD.out _ B1.out).mono ?_; rintro e w2 ⟨vp, vc, vd, rfl, ⟨Ap, np, cp, rfl⟩, ⟨Ac, nc, cc, rfl⟩, ⟨Ad, nd, cd, rfl⟩, hb⟩; have B2 := Go.Lib.hid (hb.trans (((Below.refl _ w2).alloc (Nat.le_refl _) (.cells #[.int .i64 2, .int .i64 2, .slice Ap np cp, .int .u32 0, .int .u32 0, .int .u32 0, .int .u32 0, .int .u32 0, .slice Ac nc cc] 26)).alloc (by simp) (.cells #[.int .i64 0, .int .i64 0, .slice Ad nd cd] 34) |>.mono hb.size)); have t1 := text8 (U1.out.keep B2.out); have n1 : w2.heap.size < w2.heap.size + 1 := Nat.lt_succ_self _; clear hb) | (trace "FELL D"; trace_state; fail_if_success skip)))
  go_ret
  exact ⟨rfl, B1.out.trans (B2.out.mono B1.out.size)⟩
end Go.Proofs.YtanmepgplpijkaaDoor.Att
namespace Go.Proofs.YtanmepgplpijkaaDoor.Att
open Go.RowKit Mem Segm Oct Seg
structure Kept (W : World) (B : Nat) (q : At) (Ap : Option Addr) (cp : Nat) (Ac : Option Addr) (cc : Nat) : Prop where
  box : Box9 W B 26 (.int .i64 q.has) (.int .i64 q.origin) (.slice Ap q.path.length cp) (.int .u32 q.hop) (.int .u32 q.med) (.int .u32 q.pref) (.int .u32 q.aas) (.int .u32 q.aid) (.slice Ac q.comms.length cc)
  at_ : Attrs W (.agg #[.int .i64 q.has, .int .i64 q.origin, .slice Ap q.path.length cp, .int .u32 q.hop, .int .u32 q.med, .int .u32 q.pref, .int .u32 q.aas, .int .u32 q.aid, .slice Ac q.comms.length cc]) q
theorem Kept.below {W W' : World} {B : Nat} {q : At} {Ap Ac : Option Addr} {cp cc : Nat} (h : Kept W B q Ap cp Ac cc) (hb : Below W.heap.size W W') : Kept W' B q Ap cp Ac cc := ⟨h.box.keep hb, h.at_.keep hb⟩
theorem segs_at {W W' : World} {v : Value} {p : List Piece} {n : Nat} (h : OwnSegsF 78 n n W v p) (hk : ∀ k, n ≤ k → W'.heap[k]? = W.heap[k]?) (hs : W.heap.size ≤ W'.heap.size) : Segs W' v p := (segs_off h hk hs).segs
end Go.Proofs.YtanmepgplpijkaaDoor.Att
namespace Go.Proofs.YtanmepgplpijkaaDoor.Att
open Go.RowKit Mem Segm Oct Seg
theorem two_nine {W : World} {A B : Nat} {t : TypeId} {x0 x1 x2 x3 x4 x5 x6 x7 x8 y0 y1 y2 y3 y4 y5 y6 y7 y8 : Value} (hA : Box9 W A t x0 x1 x2 x3 x4 x5 x6 x7 x8) (hB : Box9 W B t y0 y1 y2 y3 y4 y5 y6 y7 y8) (hne : A ≠ B) (v0 v1 v2 v3 v4 v5 v6 v7 v8 u0 u1 u2 u3 u4 u5 u6 u7 u8 : Value) :
    Box9 (nine (nine W A v0 v1 v2 v3 v4 v5 v6 v7 v8) B u0 u1 u2 u3 u4 u5 u6 u7 u8) A t v0 v1 v2 v3 v4 v5 v6 v7 v8 ∧ Box9 (nine (nine W A v0 v1 v2 v3 v4 v5 v6 v7 v8) B u0 u1 u2 u3 u4 u5 u6 u7 u8) B t u0 u1 u2 u3 u4 u5 u6 u7 u8 ∧ (∀ k, A < k → B < k → (nine (nine W A v0 v1 v2 v3 v4 v5 v6 v7 v8) B u0 u1 u2 u3 u4 u5 u6 u7 u8).heap[k]? = W.heap[k]?) ∧ W.heap.size ≤ (nine (nine W A v0 v1 v2 v3 v4 v5 v6 v7 v8) B u0 u1 u2 u3 u4 u5 u6 u7 u8).heap.size := by
  have a9 : Box9 (nine W A v0 v1 v2 v3 v4 v5 v6 v7 v8) A t v0 v1 v2 v3 v4 v5 v6 v7 v8 := ((((((((hA.set0 v0).set1 v1).set2 v2).set3 v3).set4 v4).set5 v5).set6 v6).set7 v7).set8 v8
  have b9 : Box9 (nine W A v0 v1 v2 v3 v4 v5 v6 v7 v8) B t y0 y1 y2 y3 y4 y5 y6 y7 y8 := by
    unfold nine
    exact box_far (box_far (box_far (box_far (box_far (box_far (box_far (box_far (box_far hB (Ne.symm hne)) (Ne.symm hne)) (Ne.symm hne)) (Ne.symm hne)) (Ne.symm hne)) (Ne.symm hne)) (Ne.symm hne)) (Ne.symm hne)) (Ne.symm hne)
  refine ⟨?_, ((((((((b9.set0 u0).set1 u1).set2 u2).set3 u3).set4 u4).set5 u5).set6 u6).set7 u7).set8 u8, fun k h1 h2 => ((nine_off _ B u0 u1 u2 u3 u4 u5 u6 u7 u8).1 k h2).trans ((nine_off W A v0 v1 v2 v3 v4 v5 v6 v7 v8).1 k h1), Nat.le_trans (nine_off W A v0 v1 v2 v3 v4 v5 v6 v7 v8).2 (nine_off _ B u0 u1 u2 u3 u4 u5 u6 u7 u8).2⟩
  have h : ∀ (W : World) (i : Nat) (x : Value), Box9 W A t v0 v1 v2 v3 v4 v5 v6 v7 v8 → Box9 (W.setCell ⟨B, i, none⟩ x) A t v0 v1 v2 v3 v4 v5 v6 v7 v8 := fun W i x h => box_far h hne
  exact h _ _ _ (h _ _ _ (h _ _ _ (h _ _ _ (h _ _ _ (h _ _ _ (h _ _ _ (h _ _ _ (h _ _ _ a9))))))))
def wantN (h : Int) (j : Nat) : No := if j < 1 ∧ hasB h 1 = false then ⟨3, 3, [1]⟩ else if j < 2 ∧ hasB h 2 = false then ⟨3, 3, [2]⟩ else if j < 3 ∧ hasB h 3 = false then ⟨3, 3, [3]⟩ else ⟨0, 0, []⟩
theorem want_end (h : Int) : wantN h 0 = wellN h := by
  unfold wantN wellN
  simp
theorem want_has {h : Int} {j : Nat} (hj : j < 3) (hb : hasB h ((j + 1 : Nat) : Int) = true) : wantN h j = wantN h (j + 1) := by
  unfold wantN
  match j, hj, hb with
  | 0, _, hb => rw [show hasB h 1 = true from hb]; simp
  | 1, _, hb => rw [show hasB h 2 = true from hb]; simp
  | 2, _, hb => rw [show hasB h 3 = true from hb]; simp
theorem want_not {h : Int} {j : Nat} (hj : j < 3) (hb : hasB h ((j + 1 : Nat) : Int) = false) : wantN h j = ⟨3, 3, [j + 1]⟩ := by
  unfold wantN
  match j, hj, hb with
  | 0, _, hb => rw [show hasB h 1 = false from hb]; simp
  | 1, _, hb => rw [show hasB h 2 = false from hb]; simp
  | 2, _, hb => rw [show hasB h 3 = false from hb]; simp
theorem want_wf (h : Int) (j : Nat) : (Lit.int .i64 (wantN h j).code).wf = true ∧ (Lit.int .i64 (wantN h j).sub).wf = true := by
  unfold wantN
  split
  · exact ⟨by decide, by decide⟩
  · split
    · exact ⟨by decide, by decide⟩
    · split
      · exact ⟨by decide, by decide⟩
      · exact ⟨by decide, by decide⟩
set_option maxRecDepth 100000 in
set_option maxHeartbeats 8000000 in
theorem forms_walk (va vb : Value) (a b : At) (kind : Int) (w : World) (ha : Attrs w va a) (hb : Attrs w vb b) (hS : Shp w) :
    Calls Tryd.prog 3 #[va, vb, .int .i64 kind] w (Tells (.bool true) w) := by
  have HFA := Go.Lib.hid (fun (v : Value) (W : World) (h : Attrs W v a) => few8_any v a W h)
  have HFB := Go.Lib.hid (fun (v : Value) (W : World) (h : Attrs W v b) => few8_any v b W h)
  obtain ⟨hok, vp, vc, rfl, hP, hC⟩ := ha
  obtain ⟨hok', vp', vc', rfl, hP', hC'⟩ := hb
  have HX := Go.Lib.hid (And.intro (show Attrs w (.agg #[.int .i64 a.has, .int .i64 a.origin, vp, .int .u32 a.hop, .int .u32 a.med, .int .u32 a.pref, .int .u32 a.aas, .int .u32 a.aid, vc]) a from ⟨hok, vp, vc, rfl, hP, hC⟩) (show Attrs w (.agg #[.int .i64 b.has, .int .i64 b.origin, vp', .int .u32 b.hop, .int .u32 b.med, .int .u32 b.pref, .int .u32 b.aas, .int .u32 b.aid, vc']) b from ⟨hok', vp', vc', rfl, hP', hC'⟩))
  obtain ⟨B1, B2, B3⟩ := two_boxes w 26 (.int .i64 a.has) (.int .i64 a.origin) (vp) (.int .u32 a.hop) (.int .u32 a.med) (.int .u32 a.pref) (.int .u32 a.aas) (.int .u32 a.aid) (vc) (.int .i64 b.has) (.int .i64 b.origin) (vp') (.int .u32 b.hop) (.int .u32 b.med) (.int .u32 b.pref) (.int .u32 b.aas) (.int .u32 b.aid) (vc')
  have X1 := Go.Lib.hid B1
  have X2 := Go.Lib.hid B2
  have X3 := Go.Lib.hid B3
  have HS := Go.Lib.hid hS
  clear B1 B2 B3 hok hok' hP hP' hC hC' hS
  go_enter Tryd.func3, Tryd.ntmps3
  dsimp only [acells]
  go_wp2
  obtain ⟨W0, hW0⟩ : ∃ W0, W0 = (w.alloc (.cells #[.int .i64 a.has, .int .i64 a.origin, vp, .int .u32 a.hop, .int .u32 a.med, .int .u32 a.pref, .int .u32 a.aas, .int .u32 a.aid, vc] 26)).alloc (.cells #[.int .i64 b.has, .int .i64 b.origin, vp', .int .u32 b.hop, .int .u32 b.med, .int .u32 b.pref, .int .u32 b.aas, .int .u32 b.aid, vc'] 26) := ⟨_, rfl⟩
  have hs0 := Go.Lib.hid (show w.heap.size + 1 + 1 ≤ W0.heap.size by rw [hW0]; simp)
  rw [← hW0] at X1 X2 X3 ⊢
  clear hW0
  obtain ⟨q, hq⟩ : ∃ q, q = fewA a := ⟨_, rfl⟩
  obtain ⟨r, hr⟩ : ∃ r, r = fewA b := ⟨_, rfl⟩
  rw [← hq] at HFA
  rw [← hr] at HFB
  have HQ := Go.Lib.hid (hq ▸ cut8_few a)
  have HR := Go.Lib.hid (hr ▸ cut8_few b)
  clear hq hr
  go_cut [6] (fun s6 wx => ∃ (Ap : Option Addr) (cp : Nat) (Ac : Option Addr) (cc : Nat) (Bp : Option Addr) (dp : Nat) (Bc : Option Addr) (dc : Nat), s6 = .bool false ∧ Hid (Kept wx w.heap.size q Ap cp Ac cc ∧ Kept wx (w.heap.size + 1) r Bp dp Bc dc ∧ Below w.heap.size w wx))
  case first =>
    obtain ⟨c0, c1, c2, c3, c4, c5, c6, c7, c8⟩ := X1.out.cells; obtain ⟨d0, d1, d2, d3, d4, d5, d6, d7, d8⟩ := X2.out.cells; have f1 := X1.out.free; have f2 := X2.out.free
    have T0 := Go.Lib.hid True.intro
    go_region_with (first
      | (have tok := T0.out; go_at_call 6; first | (refine (HFA.out _ _ (HX.out.1.keep X3.out.drew)).mono ?_; rintro e x ⟨v1, vq, vs, rfl, rfl, hok1, hq1, hu1, hy1, hx⟩; obtain ⟨aq, cq, rfl⟩ := hq1.form; obtain ⟨ar, cr, rfl⟩ := own_form hu1; have G1 := Go.Lib.hid (And.intro hok1 (And.intro hq1 (And.intro hu1 hy1))); have hx0 := (Below.refl W0.heap.size W0).drew.trans hx; replace X1 := Go.Lib.hid (X1.out.keep hx0); replace X2 := Go.Lib.hid (X2.out.keep hx0); have Y3 := Go.Lib.hid (X3.out.trans (hx0.mono X3.out.size)); have hs1 := Go.Lib.hid (Nat.le_trans hs0.out hx0.size); dsimp only [acells]; clear hx hx0 hok1 hq1 hu1 hy1 T0 tok; clear c0 c1 c2 c3 c4 c5 c6 c7 c8 d0 d1 d2 d3 d4 d5 d6 d7 d8 f1 f2; obtain ⟨c0, c1, c2, c3, c4, c5, c6, c7, c8⟩ := X1.out.cells; obtain ⟨d0, d1, d2, d3, d4, d5, d6, d7, d8⟩ := X2.out.cells; have f1 := X1.out.free; have f2 := X2.out.free) | (trace "FELL 1"; trace_state; fail_if_success skip))
      | (have y3 := Y3.out; go_at_call 6; first | (refine (HFB.out _ _ (HX.out.2.keep y3)).mono ?_; rintro e y ⟨v2, vq2, vs2, rfl, rfl, hok1, hq1, hu1, hy1, hx⟩; obtain ⟨bq, dq, rfl⟩ := hq1.form; obtain ⟨br, dr, rfl⟩ := own_form hu1; have G2 := Go.Lib.hid (And.intro hok1 (And.intro hq1 (And.intro hu1 hy1))); replace X1 := Go.Lib.hid (X1.out.keep hx); replace X2 := Go.Lib.hid (X2.out.keep hx); have G1b := Go.Lib.hid (And.intro (G1.out.2.1.keep hx) (own_keep G1.out.2.2.1 hx)); have Y4 := Go.Lib.hid (y3.trans (hx.mono y3.size)); have hs2 := Go.Lib.hid (Nat.le_trans hs1.out hx.size); dsimp only [acells]; clear hx hok1 hq1 hu1 hy1 y3 Y3; clear c0 c1 c2 c3 c4 c5 c6 c7 c8 d0 d1 d2 d3 d4 d5 d6 d7 d8 f1 f2; obtain ⟨c0, c1, c2, c3, c4, c5, c6, c7, c8⟩ := X1.out.cells; obtain ⟨d0, d1, d2, d3, d4, d5, d6, d7, d8⟩ := X2.out.cells; have f1 := X1.out.free; have f2 := X2.out.free) | (trace "FELL 2"; trace_state; fail_if_success skip)))
    all_goals
    · have H := two_nine X1.out X2.out (by omega) (.int .i64 q.has) (.int .i64 q.origin) (.slice aq q.path.length cq) (.int .u32 q.hop) (.int .u32 q.med) (.int .u32 q.pref) (.int .u32 q.aas) (.int .u32 q.aid) (.slice ar q.comms.length cr) (.int .i64 r.has) (.int .i64 r.origin) (.slice bq r.path.length dq) (.int .u32 r.hop) (.int .u32 r.med) (.int .u32 r.pref) (.int .u32 r.aas) (.int .u32 r.aid) (.slice br r.comms.length dr)
      have hz0 : w.heap.size + 1 + 1 ≤ W0.drew.heap.size := hs0.out
      have hz1 := hs1.out
      go_wp2
      go_meet
      refine ⟨aq, cq, ar, cr, bq, dq, br, dr, rfl, Go.Lib.hid ⟨⟨H.1, G1.out.1, _, _, rfl, segs_at G1b.out.1 (fun k hk => H.2.2.1 k (by omega) (by omega)) H.2.2.2, U32s.of_own (own_off G1b.out.2 (fun k hk => H.2.2.1 k (by omega) (by omega))) G1.out.2.2.2⟩, ⟨H.2.1, G2.out.1, _, _, rfl, segs_at G2.out.2.1 (fun k hk => H.2.2.1 k (by omega) (by omega)) H.2.2.2, U32s.of_own (own_off G2.out.2.2.1 (fun k hk => H.2.2.1 k (by omega) (by omega))) G2.out.2.2.2⟩, ?_⟩⟩
      exact nine_low (nine_low Y4.out w.heap.size (Nat.le_refl _) (.int .i64 q.has) (.int .i64 q.origin) (.slice aq q.path.length cq) (.int .u32 q.hop) (.int .u32 q.med) (.int .u32 q.pref) (.int .u32 q.aas) (.int .u32 q.aid) (.slice ar q.comms.length cr)) (w.heap.size + 1) (by omega) (.int .i64 r.has) (.int .i64 r.origin) (.slice bq r.path.length dq) (.int .u32 r.hop) (.int .u32 r.med) (.int .u32 r.pref) (.int .u32 r.aas) (.int .u32 r.aid) (.slice br r.comms.length dr)
  case rest =>
    obtain ⟨Ap, cp, Ac, cc, Bp, dp, Bc, dc, rfl, ST⟩ := hcut
    go_wp2
    go_cut [6, 54] (fun s6 s54 wx => s6 = .bool false ∧ s54 = .bool false ∧ Hid (Kept wx w.heap.size q Ap cp Ac cc ∧ Below w.heap.size w wx))
    case first =>
     have BW := Go.Lib.hid (show Below wc.heap.size wc wc.drew from (Below.refl _ _).drew)
     have HKC := Go.Lib.hid (fun (W : World) (h : Below wc.heap.size wc W) => And.intro ((ST.out.1.below h).box.cells) ((ST.out.2.1.below h).box.cells))
     have HKA := Go.Lib.hid (fun (W : World) (h : Below wc.heap.size wc W) => (ST.out.1.at_.keep h))
     have HKB := Go.Lib.hid (fun (W : World) (h : Below wc.heap.size wc W) => (ST.out.2.1.at_.keep h))
     have HF := Go.Lib.hid (fun (v : Value) (q : At) (hq : Cut8 q) (W : World) (h : Attrs W v q) => show Calls Tryd.prog 6 #[v] W (GivesA q W) from by
       have h1 := few8_any v q W h
       rw [hq.few] at h1
       exact h1)
     have CG := Go.Lib.hid (fun v W h => good_any v q W h HQ.out.ln)
     have CRG := Go.Lib.hid (fun v W h => refGood8 v q W h (Nat.le_trans HQ.out.bk (by decide)) HQ.out.ln (fit_more HQ.out.fit (by decide)) (Nat.le_trans HQ.out.cm (by decide)))
     have CN := Go.Lib.hid (fun v W h => pnormA_any v q W h HQ.out.bk (fit_more HQ.out.fit (by decide)) (Nat.lt_of_le_of_lt HQ.out.cm (by decide)))
     have CRN := Go.Lib.hid (fun v W h => refNorm8 v q W h (Nat.le_trans HQ.out.bk (by decide)) (fit_more HQ.out.fit (by decide)) (Nat.le_trans HQ.out.cm (by decide)))
     have CSN := Go.Lib.hid (fun va vb W h1 h2 => show Calls Tryd.prog 9 #[va, vb] W (Tells (.bool true) W) from by
       have h3 := refSame8 va vb (normA q) (normA q) W h1 h2
       rw [show sameA (normA q) (normA q) = true from sameA_iff.2 rfl] at h3
       exact h3)
     have CS := Go.Lib.hid (fun va vb W h1 h2 => sameA_any va vb q r W h1 h2)
     have CRS := Go.Lib.hid (fun va vb W h1 h2 => refSame8 va vb q r W h1 h2)
     have CF := Go.Lib.hid (fun W h => flags_any kind W h)
     have CRF := Go.Lib.hid (fun W => refFlags8 kind W)
     have hqh : q.hop < 4294967296 := ST.out.1.at_.1.2.2.1
     have CH := Go.Lib.hid (fun W => hop_any q.hop W hqh)
     have CRH := Go.Lib.hid (fun W => refHop8 q.hop W hqh)
     have HSH := Go.Lib.hid (fun (W : World) (h : Below wc.heap.size wc W) => HS.out.keep (ST.out.2.2.trans (h.mono ST.out.2.2.size)))
     clear hqh
     generalize hg : goodA q = g at CG CRG
     generalize hs : sameA q r = sm at CS CRS
     generalize hf : flagsN kind = fl at CF CRF
     generalize hh : hopB q.hop = ho at CH CRH
     have kc := HKC.out _ BW.out
     clear hg hs hf hh
     have T0 := Go.Lib.hid True.intro
     go_region_held3 (fun w' => (w'.cell? ⟨w.heap.size, 0, none⟩ = some (.int .i64 q.has) ∧ w'.cell? ⟨w.heap.size, 1, none⟩ = some (.int .i64 q.origin) ∧ w'.cell? ⟨w.heap.size, 2, none⟩ = some (.slice Ap q.path.length cp) ∧ w'.cell? ⟨w.heap.size, 3, none⟩ = some (.int .u32 q.hop) ∧ w'.cell? ⟨w.heap.size, 4, none⟩ = some (.int .u32 q.med) ∧ w'.cell? ⟨w.heap.size, 5, none⟩ = some (.int .u32 q.pref) ∧ w'.cell? ⟨w.heap.size, 6, none⟩ = some (.int .u32 q.aas) ∧ w'.cell? ⟨w.heap.size, 7, none⟩ = some (.int .u32 q.aid) ∧ w'.cell? ⟨w.heap.size, 8, none⟩ = some (.slice Ac q.comms.length cc)) ∧ w'.cell? ⟨w.heap.size + 1, 0, none⟩ = some (.int .i64 r.has) ∧ w'.cell? ⟨w.heap.size + 1, 1, none⟩ = some (.int .i64 r.origin) ∧ w'.cell? ⟨w.heap.size + 1, 2, none⟩ = some (.slice Bp r.path.length dp) ∧ w'.cell? ⟨w.heap.size + 1, 3, none⟩ = some (.int .u32 r.hop) ∧ w'.cell? ⟨w.heap.size + 1, 4, none⟩ = some (.int .u32 r.med) ∧ w'.cell? ⟨w.heap.size + 1, 5, none⟩ = some (.int .u32 r.pref) ∧ w'.cell? ⟨w.heap.size + 1, 6, none⟩ = some (.int .u32 r.aas) ∧ w'.cell? ⟨w.heap.size + 1, 7, none⟩ = some (.int .u32 r.aid) ∧ w'.cell? ⟨w.heap.size + 1, 8, none⟩ = some (.slice Bc r.comms.length dc)) (first | assumption) (first
       | (have tok := T0.out; go_at_call 6; first | (refine (HF.out _ q HQ.out _ (HKA.out _ BW.out)).mono ?_; intro e x hG; obtain ⟨v_a, rfl, hV, hx⟩ := hG.attrs; have Va := Go.Lib.hid hV; clear hV; replace BW := Go.Lib.hid (BW.out.trans (hx.mono BW.out.size)); clear hx tok T0; have T1 := Go.Lib.hid True.intro; replace kc := HKC.out _ BW.out) | (trace "FELL 0"; trace_state; fail_if_success skip))
       | (have tok := T1.out; go_at_call 7; first | (refine (CG.out _ _ Va.out).mono ?_; rintro e x ⟨rfl, hx⟩; replace BW := Go.Lib.hid (BW.out.trans (hx.mono BW.out.size)); clear hx tok T1; have T2 := Go.Lib.hid True.intro; replace kc := HKC.out _ BW.out) | (trace "FELL 1"; trace_state; fail_if_success skip))
       | (have tok := T2.out; go_at_call 8; first | (refine (CRG.out _ _ (HKA.out _ BW.out)).mono ?_; rintro e x ⟨rfl, hx⟩; replace BW := Go.Lib.hid (BW.out.trans (hx.mono BW.out.size)); clear hx tok T2; have T3 := Go.Lib.hid True.intro; replace kc := HKC.out _ BW.out) | (trace "FELL 2"; trace_state; fail_if_success skip))
       | (have tok := T3.out; go_at_call 6; first | (refine (HF.out _ q HQ.out _ (HKA.out _ BW.out)).mono ?_; intro e x hG; obtain ⟨v_b, rfl, hV, hx⟩ := hG.attrs; have Vb := Go.Lib.hid hV; clear hV; replace BW := Go.Lib.hid (BW.out.trans (hx.mono BW.out.size)); clear hx tok T3; have T4 := Go.Lib.hid True.intro; replace kc := HKC.out _ BW.out) | (trace "FELL 3"; trace_state; fail_if_success skip))
       | (have tok := T4.out; go_at_call 10; first | (refine (CN.out _ _ Vb.out).mono ?_; rintro e x ⟨v_n, rfl, hV, hx⟩; have Vn := Go.Lib.hid hV.attrs; clear hV; replace BW := Go.Lib.hid (BW.out.trans (hx.mono BW.out.size)); clear hx tok T4; have T5 := Go.Lib.hid True.intro; replace kc := HKC.out _ BW.out) | (trace "FELL 4"; trace_state; fail_if_success skip))
       | (have tok := T5.out; go_at_call 11; first | (refine (CRN.out _ _ (HKA.out _ BW.out)).mono ?_; intro e x hG; obtain ⟨v_m, rfl, hV, hx⟩ := hG.attrs; have Vm := Go.Lib.hid hV; clear hV; replace BW := Go.Lib.hid (BW.out.trans (hx.mono BW.out.size)); replace Vn := Go.Lib.hid (Vn.out.keep hx); clear hx tok T5; have T6 := Go.Lib.hid True.intro; replace kc := HKC.out _ BW.out) | (trace "FELL 5"; trace_state; fail_if_success skip))
       | (have tok := T6.out; go_at_call 9; first | (refine (CSN.out _ _ _ Vn.out Vm.out).mono ?_; rintro e x ⟨rfl, hx⟩; replace BW := Go.Lib.hid (BW.out.trans (hx.mono BW.out.size)); clear hx tok T6; have T7 := Go.Lib.hid True.intro; replace kc := HKC.out _ BW.out) | (trace "FELL 6"; trace_state; fail_if_success skip))
       | (have tok := T7.out; go_at_call 6; first | (refine (HF.out _ q HQ.out _ (HKA.out _ BW.out)).mono ?_; intro e x hG; obtain ⟨v_c, rfl, hV, hx⟩ := hG.attrs; have Vc := Go.Lib.hid hV; clear hV; replace BW := Go.Lib.hid (BW.out.trans (hx.mono BW.out.size)); clear hx tok T7; have T8 := Go.Lib.hid True.intro; replace kc := HKC.out _ BW.out) | (trace "FELL 7"; trace_state; fail_if_success skip))
       | (have tok := T8.out; go_at_call 6; first | (refine (HF.out _ r HR.out _ (HKB.out _ BW.out)).mono ?_; intro e x hG; obtain ⟨v_d, rfl, hV, hx⟩ := hG.attrs; have Vd := Go.Lib.hid hV; clear hV; replace BW := Go.Lib.hid (BW.out.trans (hx.mono BW.out.size)); replace Vc := Go.Lib.hid (Vc.out.keep hx); clear hx tok T8; have T9 := Go.Lib.hid True.intro; replace kc := HKC.out _ BW.out) | (trace "FELL 8"; trace_state; fail_if_success skip))
       | (have tok := T9.out; go_at_call 12; first | (refine (CS.out _ _ _ Vc.out Vd.out).mono ?_; rintro e x ⟨rfl, hx⟩; replace BW := Go.Lib.hid (BW.out.trans (hx.mono BW.out.size)); clear hx tok T9; have T10 := Go.Lib.hid True.intro; replace kc := HKC.out _ BW.out) | (trace "FELL 9"; trace_state; fail_if_success skip))
       | (have tok := T10.out; go_at_call 9; first | (refine (CRS.out _ _ _ (HKA.out _ BW.out) (HKB.out _ BW.out)).mono ?_; rintro e x ⟨rfl, hx⟩; replace BW := Go.Lib.hid (BW.out.trans (hx.mono BW.out.size)); clear hx tok T10; have T11 := Go.Lib.hid True.intro; replace kc := HKC.out _ BW.out) | (trace "FELL 10"; trace_state; fail_if_success skip))
       | (have tok := T11.out; go_at_call 13; first | (refine (CF.out _ (HSH.out _ BW.out)).mono ?_; rintro e x ⟨rfl, hx⟩; replace BW := Go.Lib.hid (BW.out.trans (hx.mono BW.out.size)); clear hx tok T11; have T12 := Go.Lib.hid True.intro; replace kc := HKC.out _ BW.out) | (trace "FELL 11"; trace_state; fail_if_success skip))
       | (have tok := T12.out; go_at_call 14; first | (refine (CRF.out _).mono ?_; rintro e x ⟨rfl, hx⟩; replace BW := Go.Lib.hid (BW.out.trans (hx.mono BW.out.size)); clear hx tok T12; have T13 := Go.Lib.hid True.intro; replace kc := HKC.out _ BW.out) | (trace "FELL 12"; trace_state; fail_if_success skip))
       | (have tok := T13.out; go_at_call 15; first | (refine (CH.out _).mono ?_; rintro e x ⟨rfl, hx⟩; replace BW := Go.Lib.hid (BW.out.trans (hx.mono BW.out.size)); clear hx tok T13; have T14 := Go.Lib.hid True.intro; replace kc := HKC.out _ BW.out) | (trace "FELL 13"; trace_state; fail_if_success skip))
       | (have tok := T14.out; go_at_call 16; first | (refine (CRH.out _).mono ?_; rintro e x ⟨rfl, hx⟩; replace BW := Go.Lib.hid (BW.out.trans (hx.mono BW.out.size)); clear hx tok T14; have T15 := Go.Lib.hid True.intro; replace kc := HKC.out _ BW.out) | (trace "FELL 14"; trace_state; fail_if_success skip)))
     go_wp2
     go_meet
     exact ⟨rfl, rfl, Go.Lib.hid ⟨ST.out.1.below BW.out, ST.out.2.2.trans (BW.out.mono ST.out.2.2.size)⟩⟩
    case rest =>
    obtain ⟨rfl, rfl, SU⟩ := hcut
    clear ST HFA HFB HX X1 X2 X3 hs0 HR
    go_wp2
    have HK0 := Go.Lib.hid (fun (W : World) (h : Below wc.heap.size wc W) => SU.out.1.below h)
    go_loopw [8] (fun v8 wx => ∃ (j : Nat) (n : No) (Ad : Option Addr) (cd : Nat), j ≤ 3 ∧ v8 = .int .i64 j ∧ Hid (n = wantN q.has j) ∧ Hid (Box3 wx wc.heap.size 34 (.int .i64 n.code) (.int .i64 n.sub) (.slice Ad n.data.length cd) ∧ U8s wx (.slice Ad n.data.length cd) n.data ∧ Below wc.heap.size wc wx)) (fun v8 _ => (intOf v8).toNat)
    case atStart => exact ⟨3, noneN, none, 0, by omega, rfl, Go.Lib.hid (by unfold wantN noneN; simp), Go.Lib.hid ⟨Box3.new _ _ _ _ _, U8s.nil _, (Below.refl _ _).alloc (Nat.le_refl _) _⟩⟩
    case round =>
      obtain ⟨j, n, Ad, cd, hj, rfl, HN, S1⟩ := hrel
      obtain ⟨c0, c1, c2, c3, c4, c5, c6, c7, c8⟩ := (HK0.out _ S1.out.2.2).box.cells
      obtain ⟨d0, d1, d2⟩ := S1.out.1.cells
      have fd := S1.out.1.free
      by_cases h0 : 1 ≤ j
      · obtain ⟨i, rfl⟩ : ∃ i, j = i + 1 := ⟨j - 1, by omega⟩
        have z1 : ((i + 1 : Nat) : Int) ≥ 1 := by omega
        have CHJ := Go.Lib.hid (fun W => refHas8 q.has ((i + 1 : Nat) : Int) (.int .i64 q.origin) (.slice Ap q.path.length cp) (.int .u32 q.hop) (.int .u32 q.med) (.int .u32 q.pref) (.int .u32 q.aas) (.int .u32 q.aid) (.slice Ac q.comms.length cc) W)
        obtain ⟨k, hk⟩ : ∃ k, k = i + 1 := ⟨_, rfl⟩
        cases hb : hasB q.has ((i + 1 : Nat) : Int) with
        | true =>
          have HW := Go.Lib.hid (HN.out.trans (want_has (by omega) hb).symm)
          rw [hb] at CHJ
          rw [← hk] at CHJ z1 ⊢
          have wk : wrap64 ((k : Int) - 1) = (i : Int) := by clear CHJ; unfold wrap64; omega
          have hi3 : i ≤ 3 := by omega
          have HKK := Go.Lib.hid hk
          have hik : i < k := by omega
          clear hb hk HN
          go_wp2_with (go_at_call 17; first | (refine (CHJ.out _).mono ?_; rintro e x ⟨rfl, hx⟩; have S2 := Go.Lib.hid (And.intro (S1.out.1.keep hx) (And.intro (S1.out.2.1.keep hx) (S1.out.2.2.trans (hx.mono S1.out.2.2.size)))); clear hx) | (trace "FELL H"; trace_state; fail_if_success skip))
          go_roundw
          case rel => exact ⟨i, n, Ad, cd, hi3, by (first | rw [wk] | (have hk := HKK.out; congr 1; omega)), HW, S2⟩
          case measure =>
            first | (rw [wk]; simp [intOf]; omega) | (have hk := HKK.out; subst hk; simp [intOf]; done) | (have hk := HKK.out; subst hk; simp [intOf]; omega)
        | false =>
          have HW := Go.Lib.hid (want_not (h := q.has) (j := i) (by omega) hb)
          rw [hb] at CHJ
          rw [← hk] at CHJ z1 HW ⊢
          have wk : wrap64 ((k : Int) - 1) = (i : Int) := by clear CHJ; unfold wrap64; omega
          have hi3 : i ≤ 3 := by omega
          have HKK := Go.Lib.hid hk
          have hik : i < k := by omega
          have hk8 : k < 256 := by omega
          have wb : IntKind.u8.wrap (k : Int) = (k : Int) := by rw [IntKind.wrap_u8]; omega
          clear hb hk HN
          go_wp2_with (go_at_call 17; first | (refine (CHJ.out _).mono ?_; rintro e x ⟨rfl, hx⟩; have S2 := Go.Lib.hid (And.intro (S1.out.1.keep hx) (And.intro (S1.out.2.1.keep hx) (S1.out.2.2.trans (hx.mono S1.out.2.2.size)))); clear hx c0 c1 c2 c3 c4 c5 c6 c7 c8 d0 d1 d2 fd; have B9 := Go.Lib.hid (S2.out.1.keep ((Below.refl _ x).alloc (Nat.le_refl _) (.cells #[.int .u8 k] 5))); obtain ⟨d0, d1, d2⟩ := B9.out.cells; have fd := B9.out.free) | (trace "FELL H"; trace_state; fail_if_success skip))
          go_roundw
          case rel =>
            have ho := three_off (x.alloc (.cells #[.int .u8 k] 5)) wc.heap.size (.int .i64 3) (.int .i64 3) (.slice (some ⟨x.heap.size, 0, none⟩) 1 1)
            have hu : U8s (x.alloc (.cells #[.int .u8 k] 5)) (.slice (some ⟨x.heap.size, 0, none⟩) 1 1) [k] := ⟨Row.one _ _ _, by unfold Small; simpa using hk8⟩
            refine ⟨i, ⟨3, 3, [k]⟩, _, 1, hi3, by (first | rw [wk] | (have hk := HKK.out; congr 1; omega)), Go.Lib.hid HW.out.symm, Go.Lib.hid ⟨B9.out.laid _ _ _, ?_, three_low (S2.out.2.2.alloc S2.out.2.2.size _) _ (Nat.le_refl _) _ _ _⟩⟩
            exact u8_apart hu (B9.out.no8 (no8_i _) (no8_i _) (no8_s _ _ _)) ho.1 ho.2
          case measure =>
            first | (rw [wk]; simp [intOf]; omega) | (have hk := HKK.out; subst hk; simp [intOf]; done) | (have hk := HKK.out; subst hk; simp [intOf]; omega)
      · obtain rfl : j = 0 := by omega
        have z1 : decide (((0 : Nat) : Int) ≥ 1) = false := by decide
        have HW := Go.Lib.hid (HN.out.trans (want_end q.has))
        have HNN := Go.Lib.hid (show Note wr (.agg #[.int .i64 n.code, .int .i64 n.sub, .slice Ad n.data.length cd]) (wellN q.has) from by
          have h1 := want_wf q.has 0
          rw [← HN.out] at h1
          rw [← HW.out]
          exact ⟨h1.1, h1.2, _, rfl, S1.out.2.1⟩)
        have BW := Go.Lib.hid (show Below wr.heap.size wr wr.drew from (Below.refl _ _).drew)
        have HKC := Go.Lib.hid (fun (W : World) (h : Below wr.heap.size wr W) => And.intro ((HK0.out _ (S1.out.2.2.trans (h.mono S1.out.2.2.size))).box.cells) ((S1.out.1.keep h).cells))
        have HKA := Go.Lib.hid (fun (W : World) (h : Below wr.heap.size wr W) => (HK0.out _ (S1.out.2.2.trans (h.mono S1.out.2.2.size))).at_)
        have HF := Go.Lib.hid (fun (v : Value) (W : World) (h : Attrs W v q) => show Calls Tryd.prog 6 #[v] W (GivesA q W) from by
          have h1 := few8_any v q W h
          rw [HQ.out.few] at h1
          exact h1)
        have CW := Go.Lib.hid (fun v W h => well_any v q W h)
        have CT := Go.Lib.hid (fun va vb W (h1 : Note W va (wellN q.has)) (h2 : Note W vb (wellN q.has)) => show Calls Tryd.prog 18 #[va, vb] W (Tells (.bool true) W) from by
          have h3 := told_any va vb _ _ W h1 h2
          rw [sameN_iff.2 rfl] at h3
          exact h3)
        have BL := Go.Lib.hid (show Below w.heap.size w wr from SU.out.2.trans (S1.out.2.2.mono SU.out.2.size))
        have CLV := Go.Lib.hid (fun (W : World) (h : Below wr.heap.size wr W) => lives8_any W (HS.out.keep (BL.out.trans (h.mono BL.out.size))))
        have kc := HKC.out _ BW.out
        clear c0 c1 c2 c3 c4 c5 c6 c7 c8 d0 d1 d2 fd HN HW
        have T0 := Go.Lib.hid True.intro
        go_wp2
        go_region_held3 (fun w' => (w'.cell? ⟨w.heap.size, 0, none⟩ = some (.int .i64 q.has) ∧ w'.cell? ⟨w.heap.size, 1, none⟩ = some (.int .i64 q.origin) ∧ w'.cell? ⟨w.heap.size, 2, none⟩ = some (.slice Ap q.path.length cp) ∧ w'.cell? ⟨w.heap.size, 3, none⟩ = some (.int .u32 q.hop) ∧ w'.cell? ⟨w.heap.size, 4, none⟩ = some (.int .u32 q.med) ∧ w'.cell? ⟨w.heap.size, 5, none⟩ = some (.int .u32 q.pref) ∧ w'.cell? ⟨w.heap.size, 6, none⟩ = some (.int .u32 q.aas) ∧ w'.cell? ⟨w.heap.size, 7, none⟩ = some (.int .u32 q.aid) ∧ w'.cell? ⟨w.heap.size, 8, none⟩ = some (.slice Ac q.comms.length cc)) ∧ (w'.cell? ⟨wc.heap.size, 0, none⟩ = some (.int .i64 n.code) ∧ w'.cell? ⟨wc.heap.size, 1, none⟩ = some (.int .i64 n.sub) ∧ w'.cell? ⟨wc.heap.size, 2, none⟩ = some (.slice Ad n.data.length cd))) (first | assumption) (first
         | (have tok := T0.out; go_at_call 6; first | (refine (HF.out _ _ (HKA.out _ BW.out)).mono ?_; intro e x hG; obtain ⟨v_a, rfl, hV, hx⟩ := hG.attrs; have Va := Go.Lib.hid hV; clear hV; replace BW := Go.Lib.hid (BW.out.trans (hx.mono BW.out.size)); clear hx tok T0; have T1 := Go.Lib.hid True.intro; replace kc := HKC.out _ BW.out) | (trace "FELL 0"; trace_state; fail_if_success skip))
         | (have tok := T1.out; go_at_call 19; first | (refine (CW.out _ _ Va.out).mono ?_; rintro e x ⟨v_w, rfl, hV, hx⟩; have Vw := Go.Lib.hid hV; clear hV; replace BW := Go.Lib.hid (BW.out.trans (hx.mono BW.out.size)); clear hx tok T1; have T2 := Go.Lib.hid True.intro; replace kc := HKC.out _ BW.out) | (trace "FELL 1"; trace_state; fail_if_success skip))
         | (have tok := T2.out; go_at_call 18; first | (refine (CT.out _ _ _ Vw.out (HNN.out.keep BW.out)).mono ?_; rintro e x ⟨rfl, hx⟩; replace BW := Go.Lib.hid (BW.out.trans (hx.mono BW.out.size)); clear hx tok T2; have T3 := Go.Lib.hid True.intro; replace kc := HKC.out _ BW.out) | (trace "FELL 2"; trace_state; fail_if_success skip))
         | (have tok := T3.out; go_at_call 20; first | (refine (CLV.out _ BW.out).mono ?_; rintro e x ⟨rfl, hx⟩; replace BW := Go.Lib.hid (BW.out.trans (hx.mono BW.out.size)); clear hx tok T3; have T4 := Go.Lib.hid True.intro; replace kc := HKC.out _ BW.out) | (trace "FELL 3"; trace_state; fail_if_success skip)))
        go_wp2
        go_ret
        exact ⟨rfl, BL.out.trans (BW.out.mono BL.out.size)⟩
end Go.Proofs.YtanmepgplpijkaaDoor.Att
