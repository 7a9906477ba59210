/- The law TrieOrder, out of what is asked of the tree. -/
import Derived.Test.YtpcahgnibdampaaH13
import Derived.Test.YtpcahgnibdampaaH11
import Derived.Test.YtpcahgnibdampaaH05
namespace Go.Proofs.Ytpcahgnibdampaa.Tri
open Go.RowKit Mem PR Pfx Oct
def Two (T : Tree) (b1 : Nat) (v1 : Value) (l1 : List Ent) (b2 : Nat) (v2 : Value) (l2 : List Ent) (w : World) : Prop :=
  ∃ t F u G, T w b1 v1 t F ∧ T w b2 v2 u G ∧ ents t = l1 ∧ ents u = l2 ∧ ∀ k, F k → ¬ G k
section
variable {T : Tree} {b1 b2 : Nat} {v1 v2 : Value} {l1 l2 : List Ent} {w w' : World}
theorem Two.swap (h : Two T b1 v1 l1 b2 v2 l2 w) : Two T b2 v2 l2 b1 v1 l1 w := by
  obtain ⟨t, F, u, G, h1, h2, h3, h4, h5⟩ := h
  exact ⟨u, G, t, F, h2, h1, h4, h3, fun k hg hf => h5 k hf hg⟩
theorem Two.keep (FT : FaceT T) (h : Two T b1 v1 l1 b2 v2 l2 w) (hb : Below w.heap.size w w') : Two T b1 v1 l1 b2 v2 l2 w' := by
  obtain ⟨t, F, u, G, h1, h2, h3, h4, h5⟩ := h
  exact ⟨t, F, u, G, FT.keep h1 (fun k hk => hb.block k (FT.low h1 k hk).2) hb.size, FT.keep h2 (fun k hk => hb.block k (FT.low h2 k hk).2) hb.size, h3, h4, h5⟩
theorem two_next (FT : FaceT T) {t2 u : Tr} {F F2 G : Nat → Prop} (h2 : T w b2 v2 u G) (h5 : ∀ k, F k → ¬ G k) (q1 : T w' b1 v1 t2 F2) (q3 : Only F w w') (q4 : Grow F F2 w) : Two T b1 v1 (ents t2) b2 v2 (ents u) w' :=
  ⟨t2, F2, u, G, q1, FT.keep h2 (fun k hk => q3.block k (FT.low h2 k hk).2 (fun hf => h5 k hf hk)) q3.size, rfl, rfl, fun k hk hg => (q4 k hk).elim (fun hf => h5 k hf hg) (fun hn => by have := (FT.low h2 k hg).2; omega)⟩
theorem two_put (FT : FaceT T) (p : Pf) (x : Int) (h : Two T b1 v1 l1 b2 v2 l2 w) (hb : b1 ≤ w.heap.size) (hp : p.ok) (hx : (Lit.int .i64 x).wf = true) (hl : l1.length ≤ 900) :
    Calls Try.prog 24 #[v1, pV p, .int .i64 x] w fun e w' => ∃ y g, e = .returned (.tuple #[.int .i64 y, .bool g]) ∧ Two T b1 v1 (putG l1 p x) b2 v2 l2 w' ∧ Below b1 w w' := by
  obtain ⟨t, F, u, G, h1, h2, rfl, rfl, h5⟩ := h
  refine (FT.put p x h1 hp hx hb (by omega)).mono ?_
  rintro e w' ⟨t2, F2, rfl, q1, q2, q3, q4⟩
  have := two_next FT h2 h5 q1 q3 q4
  rw [q2] at this
  exact ⟨_, _, rfl, this, q3.below (fun k hk => (FT.low h1 k hk).1) hb⟩
theorem two_cut (FT : FaceT T) (p : Pf) (h : Two T b1 v1 l1 b2 v2 l2 w) (hb : b1 ≤ w.heap.size) (hp : p.ok) (hl : l1.length ≤ 900) :
    Calls Try.prog 25 #[v1, pV p] w fun e w' => ∃ y g, e = .returned (.tuple #[.int .i64 y, .bool g]) ∧ Two T b1 v1 (cutE l1 p) b2 v2 l2 w' ∧ Below b1 w w' := by
  obtain ⟨t, F, u, G, h1, h2, rfl, rfl, h5⟩ := h
  refine (FT.cut p h1 hp hb (by omega)).mono ?_
  rintro e w' ⟨t2, F2, rfl, q1, q2, q3, q4⟩
  have := two_next FT h2 h5 q1 q3 q4
  rw [q2] at this
  exact ⟨_, _, rfl, this, q3.below (fun k hk => (FT.low h1 k hk).1) hb⟩
theorem two_get (FT : FaceT T) (p : Pf) (h : Two T b1 v1 l1 b2 v2 l2 w) (hp : p.ok) :
    Calls Try.prog 11 #[v1, pV p] w (Tells (.tuple #[.int .i64 (valE l1 p), .bool (hasE l1 p)]) w) := by
  obtain ⟨t, F, u, G, h1, h2, rfl, rfl, h5⟩ := h
  exact FT.get p h1 hp
theorem two_all (FT : FaceT T) (h : Two T b1 v1 l1 b2 v2 l2 w) (hl : l1.length ≤ 900) : Calls Try.prog 20 #[v1] w (GivesP (keys l1) w) := by
  obtain ⟨t, F, u, G, h1, h2, rfl, rfl, h5⟩ := h
  exact FT.all h1 (by omega)
theorem two_check (FT : FaceT T) (h : Two T b1 v1 l1 b2 v2 l2 w) (hl : l1.length ≤ 900) : Calls Try.prog 22 #[v1] w (Tells (.bool true) w) := by
  obtain ⟨t, F, u, G, h1, h2, rfl, rfl, h5⟩ := h
  exact FT.check h1 (by omega)
theorem two_ord (FT : FaceT T) (h : Two T b1 v1 l1 b2 v2 l2 w) : Ord l1 := by
  obtain ⟨t, F, u, G, h1, h2, rfl, rfl, h5⟩ := h
  exact ents_ord t (FT.wf h1)
theorem two_oks (FT : FaceT T) (h : Two T b1 v1 l1 b2 v2 l2 w) : Oks (keys l1) := by
  obtain ⟨t, F, u, G, h1, h2, rfl, rfl, h5⟩ := h
  intro p hp
  have h6 := ents_good t (FT.wf h1) p hp
  have h7 := good_len h6.1
  exact ⟨h6.2, by simp [Lit.wf, IntKind.min, IntKind.max, IntKind.signed, IntKind.bits]; omega⟩
theorem two_nodes (FT : FaceT T) (h : Two T b1 v1 l1 b2 v2 l2 w) (hl : l1.length ≤ 900) (hl2 : l2.length ≤ 900) (he : keys l1 = keys l2) :
    ∃ n : Nat, (∀ W, Below w.heap.size w W → Calls Try.prog 23 #[v1] W (Tells (.int .i64 n) W)) ∧ ∀ W, Below w.heap.size w W → Calls Try.prog 23 #[v2] W (Tells (.int .i64 n) W) := by
  obtain ⟨t, F, u, G, h1, h2, rfl, rfl, h5⟩ := h
  refine ⟨size t, fun W hW => FT.nodes (FT.keep h1 (fun k hk => hW.block k (FT.low h1 k hk).2) hW.size) (by omega), fun W hW => ?_⟩
  rw [size_keys (FT.wf h1) (FT.wf h2) he]
  exact FT.nodes (FT.keep h2 (fun k hk => hW.block k (FT.low h2 k hk).2) hW.size) (by omega)
end
theorem few_wf {n : Nat} (h : n < 256) : (Lit.int .i64 (n : Nat)).wf = true := by simp [Lit.wf, IntKind.min, IntKind.max, IntKind.signed, IntKind.bits]; omega
theorem no_has {l : List Ent} {p : Pf} (h : hasE l p = false) : getE l p = none := by
  unfold hasE at h
  cases hg : getE l p with
  | none => rfl
  | some x => rw [hg] at h; cases h
set_option maxRecDepth 100000 in
set_option maxHeartbeats 32000000 in
theorem order_of {T : Tree} (FT : FaceT T) (v gv : Value) (l gone : List Pf) (w : World) (hv : Pfxs w v l) (hgv : Pfxs w gv gone) :
    Calls Try.prog 5 #[v, gv] w (Tells (.bool true) w) := by
  have HV := Go.Lib.hid hv
  have HG := Go.Lib.hid hgv
  have LV := Go.Lib.hid (lives_of FT)
  have CN := Go.Lib.hid FT.new
  obtain ⟨A, c, rfl, hlc, hc⟩ := hv.form
  obtain ⟨A2, c2, rfl, hlc2, hc2⟩ := hgv.form
  clear hv hgv
  by_cases h30 : 30 < l.length
  · focus
      have z30 : decide ((30 : Int) < (l.length : Int)) = true := decide_eq_true (by omega)
      obtain ⟨n, hn⟩ : ∃ n : Nat, n = 30 := ⟨_, rfl⟩
      have hnl : n ≤ l.length ∧ n ≤ 30 := by omega
      have HN := Go.Lib.hid (show (30 : Int) = (n : Int) by omega)
      go_enter Try.func5, Try.ntmps5
      go_upto_region 5 with (first
        | (have tok := CN.out w; clear tok; go_at_call 7; refine (CN.out w).mono ?_; rintro e w1 ⟨b, F, rfl, hT, hb⟩; have T1 := Go.Lib.hid hT; have B1 := Go.Lib.hid hb; clear hT hb)
        | (have tok := B1.out; clear tok; go_at_call 7; refine (CN.out w1).mono ?_; rintro e w2 ⟨b2, F2, rfl, hT, hb⟩; have T2 := Go.Lib.hid hT; have B2 := Go.Lib.hid hb; clear hT hb))
      have P0 := Go.Lib.hid (show Two T w.heap.size (.pointer (some ⟨b, 0, none⟩)) [] w1.heap.size (.pointer (some ⟨b2, 0, none⟩)) [] w2 from ⟨.nil, F, .nil, F2, FT.keep T1.out (fun k hk => B2.out.block k (FT.low T1.out k hk).2) B2.out.size, T2.out, rfl, rfl, fun k hk hg => by have := (FT.low T1.out k hk).2; have := (FT.low T2.out k hg).1; omega⟩)
      have BW := Go.Lib.hid (B1.out.trans (B2.out.mono B1.out.size))
      have HBB := Go.Lib.hid B1.out.size
      have HBU := Go.Lib.hid B2.out.size
      generalize Value.pointer (some ⟨b, 0, none⟩) = tv at *
      generalize Value.pointer (some ⟨b2, 0, none⟩) = uv at *
      generalize w1.heap.size = bu at *
      clear T1 T2 B1 B2
      rw [HN.out]
      clear hn HN z30 h30
      go_wp2
      go_loopw [8] (fun v8 wx => ∃ (i : Nat) (rt ru : List Ent), i ≤ n ∧ v8 = .int .i64 i ∧ Hid (rt.length ≤ i) ∧ Hid (ru.length ≤ i) ∧ Hid (Holds rt ((l.take n).take i)) ∧ Hid (Holds ru ((l.take n).drop (n - i))) ∧ Hid (Two T w.heap.size tv rt bu uv ru wx) ∧ Hid (Below w.heap.size w wx) ∧ Hid (bu ≤ wx.heap.size)) (fun v8 _ => n - (intOf v8).toNat)
      case atStart => exact ⟨0, [], [], Nat.zero_le _, rfl, Go.Lib.hid (Nat.le_refl _), Go.Lib.hid (Nat.le_refl _), Go.Lib.hid (by simpa using holds_nil), Go.Lib.hid (by rw [Nat.sub_zero, List.drop_of_length_le (by rw [List.length_take]; omega)]; exact holds_nil), P0, BW, HBU⟩
      case round =>
        obtain ⟨i, rt, ru, hi, rfl, hlt, hlu, hht, hhu, hS, hb, hbu⟩ := hrel
        by_cases hin : i < n
        · obtain ⟨p, hp⟩ : ∃ p, l[i]? = some p := ⟨_, List.getElem?_eq_getElem (by omega)⟩
          obtain ⟨j, hj⟩ : ∃ j, j = n - 1 - i := ⟨_, rfl⟩
          obtain ⟨q, hq⟩ : ∃ q, l[j]? = some q := ⟨_, List.getElem?_eq_getElem (by omega)⟩
          have HHT := Go.Lib.hid (holds_up (v := (i : Int)) hht.out (show (l.take n)[i]? = some p by rw [List.getElem?_take, if_pos hin]; exact hp))
          have HHU := Go.Lib.hid (show Holds (putG ru q i) ((l.take n).drop (n - (i + 1))) from by
            have h := holds_down (l := ru) (m := l.take n) (p := q) (v := (i : Int)) (j := j) (by rw [show j + 1 = n - i by omega]; exact hhu.out) (by rw [List.getElem?_take, if_pos (by omega)]; exact hq)
            rwa [show j = n - (i + 1) by omega] at h)
          obtain ⟨bl, off, rfl, hbl, k0, k1⟩ := (HV.out).at_ hp
          obtain ⟨bl2, off2, e2, hbl2, q0, q1⟩ := (HV.out).at_ hq
          injection e2 with e2
          injection e2 with e2 e3 _
          subst e2 e3
          have hpo := HV.out.2 p (List.mem_of_getElem? hp)
          have hqo := HV.out.2 q (List.mem_of_getElem? hq)
          have z0 : (0 : Int) ≤ (i : Int) := by omega
          have z1 : (i : Int) < (n : Int) := by omega
          have z2 : (i : Int) < (l.length : Int) := by omega
          have z3 : (0 : Int) ≤ (j : Int) := by omega
          have z4 : (j : Int) < (l.length : Int) := by omega
          have y1 : IntKind.i64.wrap ((n : Int) - 1) = (n : Int) - 1 := by rw [IntKind.wrap_i64]; omega
          have y2 : IntKind.i64.wrap ((n : Int) - 1 - (i : Int)) = (j : Int) := by rw [IntKind.wrap_i64]; omega
          have hw := few_wf (n := i) (by omega)
          have HK := Go.Lib.hid (fun (W : World) (h : Below w.heap.size w W) => (⟨(h.cell (p := ⟨bl, off + i * 2, none⟩) hbl).trans k0, (h.cell (p := ⟨bl, off + i * 2 + 1, none⟩) hbl).trans k1, (h.cell (p := ⟨bl, off + j * 2, none⟩) hbl2).trans q0, (h.cell (p := ⟨bl, off + j * 2 + 1, none⟩) hbl2).trans q1⟩ :
            W.cell? ⟨bl, off + i * 2, none⟩ = some (.int .u32 p.a) ∧ W.cell? ⟨bl, off + i * 2 + 1, none⟩ = some (.int .i64 p.n) ∧ W.cell? ⟨bl, off + j * 2, none⟩ = some (.int .u32 q.a) ∧ W.cell? ⟨bl, off + j * 2 + 1, none⟩ = some (.int .i64 q.n)))
          obtain ⟨c0, c1, c2, c3⟩ := HK.out _ hb.out
          have HL1 := Go.Lib.hid (show (putG rt p i).length ≤ i + 1 by have := putG_len rt p i; have := hlt.out; omega)
          have HL2 := Go.Lib.hid (show (putG ru q i).length ≤ i + 1 by have := putG_len ru q i; have := hlu.out; omega)
          have CP1 := Go.Lib.hid (two_put FT p i hS.out hb.out.size hpo hw (by have := hlt.out; omega))
          have CP3 := Go.Lib.hid (fun (W : World) (r : List Ent) (h : Two T w.heap.size tv r bu uv ru W) (h2 : bu ≤ W.heap.size) => two_put FT q i h.swap h2 hqo hw (by have := hlu.out; omega))
          obtain ⟨r1, hr1⟩ : ∃ r, r = putG rt p i := ⟨_, rfl⟩
          rw [← hr1] at CP1 HHT HL1
          have h900 : r1.length ≤ 800 := by have := HL1.out; omega
          unfold pV at CP1 CP3
          clear k0 k1 q0 q1 hbl hbl2 hp hq hj hr1 hpo hqo hw
          by_cases hig : i < gone.length
          case neg =>
            have x0 : decide ((i : Int) < (gone.length : Int)) = false := decide_eq_false (by omega)
            have x1 : decide (i < gone.length) = false := decide_eq_false hig
            have x2 : (i < gone.length) = False := eq_false hig
            have x3 : ((i : Int) < (gone.length : Int)) = False := eq_false (by omega)
            clear hig
            go_wp2_with (first
              | (go_at_call 24; refine (CP1.out).mono ?_; rintro e x ⟨y, gg, rfl, hs, hbx⟩; have S := Go.Lib.hid hs; have D := Go.Lib.hid (hb.out.trans hbx); have U := Go.Lib.hid (Nat.le_trans hbu.out hbx.size); obtain ⟨c0, c1, c2, c3⟩ := HK.out _ D.out; (try (obtain ⟨d0, d1⟩ := HKG.out _ D.out)); clear hs hbx CP1)
              | (go_at_call 24; refine (CP3.out _ _ S.out U.out).mono ?_; rintro e x ⟨y4, gg4, rfl, hs, hbx⟩; have S3 := Go.Lib.hid hs.swap; have U3 := Go.Lib.hid (Nat.le_trans U.out hbx.size); have D3 := Go.Lib.hid (D.out.trans (hbx.mono HBB.out)); clear hs hbx CP3))
            go_roundw
            case rel => exact ⟨i + 1, _, _, hin, by go_num, HL1, HL2, HHT, HHU, S3, D3, U3⟩
            case measure => simp [intOf]; omega
          case pos =>
            obtain ⟨g, hg⟩ : ∃ g, gone[i]? = some g := ⟨_, List.getElem?_eq_getElem hig⟩
            obtain ⟨bg, og, rfl, hbg, g0, g1⟩ := (HG.out).at_ hg
            have hgo := HG.out.2 g (List.mem_of_getElem? hg)
            have x0 : (i : Int) < (gone.length : Int) := by omega
            have HKG := Go.Lib.hid (fun (W : World) (h : Below w.heap.size w W) => (⟨(h.cell (p := ⟨bg, og + i * 2, none⟩) hbg).trans g0, (h.cell (p := ⟨bg, og + i * 2 + 1, none⟩) hbg).trans g1⟩ :
              W.cell? ⟨bg, og + i * 2, none⟩ = some (.int .u32 g.a) ∧ W.cell? ⟨bg, og + i * 2 + 1, none⟩ = some (.int .i64 g.n)))
            obtain ⟨d0, d1⟩ := HKG.out _ hb.out
            have CG := Go.Lib.hid (fun (W : World) (h : Two T w.heap.size tv r1 bu uv ru W) => two_get FT g h hgo)
            unfold pV at CG
            clear g0 g1 hbg hg hig
            cases hh : hasE r1 g with
            | true =>
              rw [hh] at CG
              clear hh
              go_wp2_with (first
                | (go_at_call 24; refine (CP1.out).mono ?_; rintro e x ⟨y, gg, rfl, hs, hbx⟩; have S := Go.Lib.hid hs; have D := Go.Lib.hid (hb.out.trans hbx); have U := Go.Lib.hid (Nat.le_trans hbu.out hbx.size); obtain ⟨c0, c1, c2, c3⟩ := HK.out _ D.out; (try (obtain ⟨d0, d1⟩ := HKG.out _ D.out)); clear hs hbx CP1)
                | (go_at_call 11; refine (CG.out _ S.out).mono ?_; rintro e x ⟨rfl, hbx⟩; replace S := Go.Lib.hid (S.out.keep FT hbx); replace U := Go.Lib.hid (Nat.le_trans U.out hbx.size); replace D := Go.Lib.hid (D.out.trans (hbx.mono D.out.size)); obtain ⟨c0, c1, c2, c3⟩ := HK.out _ D.out; (try (obtain ⟨d0, d1⟩ := HKG.out _ D.out)); clear hbx CG)
                | (go_at_call 24; refine (CP3.out _ _ S.out U.out).mono ?_; rintro e x ⟨y4, gg4, rfl, hs, hbx⟩; have S3 := Go.Lib.hid hs.swap; have U3 := Go.Lib.hid (Nat.le_trans U.out hbx.size); have D3 := Go.Lib.hid (D.out.trans (hbx.mono HBB.out)); clear hs hbx CP3))
              go_roundw
              case rel => exact ⟨i + 1, _, _, hin, by go_num, HL1, HL2, HHT, HHU, S3, D3, U3⟩
              case measure => simp [intOf]; omega
            | false =>
              rw [hh] at CG
              have HCUT := Go.Lib.hid (cut_putG (v := 7) (no_has hh))
              have CP2 := Go.Lib.hid (fun (W : World) (h : Two T w.heap.size tv r1 bu uv ru W) (h2 : w.heap.size ≤ W.heap.size) => two_put FT g 7 h h2 hgo (by decide) (by omega))
              have CC := Go.Lib.hid (fun (W : World) (h : Two T w.heap.size tv (putG r1 g 7) bu uv ru W) (h2 : w.heap.size ≤ W.heap.size) => two_cut FT g h h2 hgo (by have := putG_len r1 g 7; omega))
              rw [HCUT.out] at CC
              unfold pV at CP2 CC
              clear hh HCUT
              go_wp2_with (first
                | (go_at_call 24; refine (CP1.out).mono ?_; rintro e x ⟨y, gg, rfl, hs, hbx⟩; have S := Go.Lib.hid hs; have D := Go.Lib.hid (hb.out.trans hbx); have U := Go.Lib.hid (Nat.le_trans hbu.out hbx.size); obtain ⟨c0, c1, c2, c3⟩ := HK.out _ D.out; (try (obtain ⟨d0, d1⟩ := HKG.out _ D.out)); clear hs hbx CP1)
                | (go_at_call 11; refine (CG.out _ S.out).mono ?_; rintro e x ⟨rfl, hbx⟩; replace S := Go.Lib.hid (S.out.keep FT hbx); replace U := Go.Lib.hid (Nat.le_trans U.out hbx.size); replace D := Go.Lib.hid (D.out.trans (hbx.mono D.out.size)); obtain ⟨c0, c1, c2, c3⟩ := HK.out _ D.out; (try (obtain ⟨d0, d1⟩ := HKG.out _ D.out)); clear hbx CG)
                | (go_at_call 24; refine (CP2.out _ S.out D.out.size).mono ?_; rintro e x ⟨y2, gg2, rfl, hs, hbx⟩; replace S := Go.Lib.hid hs; replace U := Go.Lib.hid (Nat.le_trans U.out hbx.size); replace D := Go.Lib.hid (D.out.trans hbx); obtain ⟨c0, c1, c2, c3⟩ := HK.out _ D.out; (try (obtain ⟨d0, d1⟩ := HKG.out _ D.out)); clear hs hbx CP2)
                | (go_at_call 25; refine (CC.out _ S.out D.out.size).mono ?_; rintro e x ⟨y3, gg3, rfl, hs, hbx⟩; replace S := Go.Lib.hid hs; replace U := Go.Lib.hid (Nat.le_trans U.out hbx.size); replace D := Go.Lib.hid (D.out.trans hbx); obtain ⟨c0, c1, c2, c3⟩ := HK.out _ D.out; (try (obtain ⟨d0, d1⟩ := HKG.out _ D.out)); clear hs hbx CC)
                | (go_at_call 24; refine (CP3.out _ _ S.out U.out).mono ?_; rintro e x ⟨y4, gg4, rfl, hs, hbx⟩; have S3 := Go.Lib.hid hs.swap; have U3 := Go.Lib.hid (Nat.le_trans U.out hbx.size); have D3 := Go.Lib.hid (D.out.trans (hbx.mono HBB.out)); clear hs hbx CP3))
              go_roundw
              case rel => exact ⟨i + 1, _, _, hin, by go_num, HL1, HL2, HHT, HHU, S3, D3, U3⟩
              case measure => simp [intOf]; omega
        · have HI := Go.Lib.hid (show i = n by omega)
          have z1 : decide ((i : Int) < (n : Int)) = false := decide_eq_false (by omega)
          have he : keys rt = keys ru := holds_same (two_ord FT hS.out) (two_ord FT hS.out.swap) (m := l.take n) (by have h := hht.out; rwa [HI.out, List.take_of_length_le (by rw [List.length_take]; omega)] at h) (by have h := hhu.out; rwa [HI.out, Nat.sub_self, List.drop_zero] at h)
          have h1 : rt.length ≤ 900 := by have := hlt.out; omega
          have h2 : ru.length ≤ 900 := by have := hlu.out; omega
          obtain ⟨nn, hn1, hn2⟩ := two_nodes FT hS.out h1 h2 he
          have N1 := Go.Lib.hid hn1
          have N2 := Go.Lib.hid hn2
          have OK1 := Go.Lib.hid (two_oks FT hS.out)
          have OK2 := Go.Lib.hid (two_oks FT hS.out.swap)
          have CS := Go.Lib.hid (fun (va vb : Value) (W : World) (ha : Pfxs W va (keys rt)) (hb : Pfxs W vb (keys ru)) => refSameP_any va vb _ _ W ha hb)
          rw [decide_eq_true he] at CS
          have A1 := Go.Lib.hid (fun (W : World) (h : Below wr.heap.size wr W) => two_all FT (hS.out.keep FT h) h1)
          have A2 := Go.Lib.hid (fun (W : World) (h : Below wr.heap.size wr W) => two_all FT (hS.out.keep FT h).swap h2)
          have K1 := Go.Lib.hid (fun (W : World) (h : Below wr.heap.size wr W) => two_check FT (hS.out.keep FT h) h1)
          have K2 := Go.Lib.hid (fun (W : World) (h : Below wr.heap.size wr W) => two_check FT (hS.out.keep FT h).swap h2)
          have BX := Go.Lib.hid (Below.refl wr.heap.size wr)
          clear he hn1 hn2 h1 h2 hht hhu
          go_wp2_with (first
            | (go_at_call 20; (with_reducible refine (A1.out _ BX.out).mono ?_); rintro e x ⟨A5, c5, rfl, ho, hbx⟩; have PA := Go.Lib.hid (Pfxs.of_own ho OK1.out); replace BX := Go.Lib.hid (BX.out.trans (hbx.mono BX.out.size)); clear ho hbx)
            | (go_at_call 20; (with_reducible refine (A2.out _ BX.out).mono ?_); rintro e x ⟨A6, c6, rfl, ho, hbx⟩; have PB := Go.Lib.hid (Pfxs.of_own ho OK2.out); replace PA := Go.Lib.hid (PA.out.keep hbx); replace BX := Go.Lib.hid (BX.out.trans (hbx.mono BX.out.size)); clear ho hbx)
            | (go_at_call 14; (with_reducible refine (CS.out _ _ _ PA.out PB.out).mono ?_); rintro e x ⟨rfl, hbx⟩; replace BX := Go.Lib.hid (BX.out.trans (hbx.mono BX.out.size)); clear hbx)
            | (go_at_call 23; (with_reducible refine (N1.out _ BX.out).mono ?_); rintro e x ⟨rfl, hbx⟩; replace BX := Go.Lib.hid (BX.out.trans (hbx.mono BX.out.size)); clear hbx)
            | (go_at_call 23; (with_reducible refine (N2.out _ BX.out).mono ?_); rintro e x ⟨rfl, hbx⟩; replace BX := Go.Lib.hid (BX.out.trans (hbx.mono BX.out.size)); clear hbx)
            | (go_at_call 22; (with_reducible refine (K1.out _ BX.out).mono ?_); rintro e x ⟨rfl, hbx⟩; replace BX := Go.Lib.hid (BX.out.trans (hbx.mono BX.out.size)); clear hbx)
            | (go_at_call 22; (with_reducible refine (K2.out _ BX.out).mono ?_); rintro e x ⟨rfl, hbx⟩; replace BX := Go.Lib.hid (BX.out.trans (hbx.mono BX.out.size)); clear hbx)
            | (go_at_call 21; (with_reducible refine (LV.out _).mono ?_); rintro e x ⟨rfl, hbx⟩; replace BX := Go.Lib.hid (BX.out.trans (hbx.mono BX.out.size)); clear hbx))
          go_ret
          exact ⟨rfl, hb.out.trans (BX.out.mono hb.out.size)⟩
  · focus
      have z30 : decide ((30 : Int) < (l.length : Int)) = false := decide_eq_false (by omega)
      go_enter Try.func5, Try.ntmps5
      go_upto_region 5 with (first
        | (have tok := CN.out w; clear tok; go_at_call 7; refine (CN.out w).mono ?_; rintro e w1 ⟨b, F, rfl, hT, hb⟩; have T1 := Go.Lib.hid hT; have B1 := Go.Lib.hid hb; clear hT hb)
        | (have tok := B1.out; clear tok; go_at_call 7; refine (CN.out w1).mono ?_; rintro e w2 ⟨b2, F2, rfl, hT, hb⟩; have T2 := Go.Lib.hid hT; have B2 := Go.Lib.hid hb; clear hT hb))
      have P0 := Go.Lib.hid (show Two T w.heap.size (.pointer (some ⟨b, 0, none⟩)) [] w1.heap.size (.pointer (some ⟨b2, 0, none⟩)) [] w2 from ⟨.nil, F, .nil, F2, FT.keep T1.out (fun k hk => B2.out.block k (FT.low T1.out k hk).2) B2.out.size, T2.out, rfl, rfl, fun k hk hg => by have := (FT.low T1.out k hk).2; have := (FT.low T2.out k hg).1; omega⟩)
      have BW := Go.Lib.hid (B1.out.trans (B2.out.mono B1.out.size))
      have HBB := Go.Lib.hid B1.out.size
      have HBU := Go.Lib.hid B2.out.size
      generalize Value.pointer (some ⟨b, 0, none⟩) = tv at *
      generalize Value.pointer (some ⟨b2, 0, none⟩) = uv at *
      generalize w1.heap.size = bu at *
      clear T1 T2 B1 B2
      have hnl : l.length ≤ l.length ∧ l.length ≤ 30 := by omega
      obtain ⟨n, hn⟩ : ∃ n : Nat, n = l.length := ⟨_, rfl⟩
      clear z30 h30
      go_wp2
      go_loopw [8] (fun v8 wx => ∃ (i : Nat) (rt ru : List Ent), i ≤ l.length ∧ v8 = .int .i64 i ∧ Hid (rt.length ≤ i) ∧ Hid (ru.length ≤ i) ∧ Hid (Holds rt ((l.take l.length).take i)) ∧ Hid (Holds ru ((l.take l.length).drop (l.length - i))) ∧ Hid (Two T w.heap.size tv rt bu uv ru wx) ∧ Hid (Below w.heap.size w wx) ∧ Hid (bu ≤ wx.heap.size)) (fun v8 _ => l.length - (intOf v8).toNat)
      case atStart => exact ⟨0, [], [], Nat.zero_le _, rfl, Go.Lib.hid (Nat.le_refl _), Go.Lib.hid (Nat.le_refl _), Go.Lib.hid (by simpa using holds_nil), Go.Lib.hid (by rw [Nat.sub_zero, List.drop_of_length_le (by rw [List.length_take]; omega)]; exact holds_nil), P0, BW, HBU⟩
      case round =>
        obtain ⟨i, rt, ru, hi, rfl, hlt, hlu, hht, hhu, hS, hb, hbu⟩ := hrel
        by_cases hin : i < l.length
        · obtain ⟨p, hp⟩ : ∃ p, l[i]? = some p := ⟨_, List.getElem?_eq_getElem (by omega)⟩
          obtain ⟨j, hj⟩ : ∃ j, j = l.length - 1 - i := ⟨_, rfl⟩
          obtain ⟨q, hq⟩ : ∃ q, l[j]? = some q := ⟨_, List.getElem?_eq_getElem (by omega)⟩
          have HHT := Go.Lib.hid (holds_up (v := (i : Int)) hht.out (show (l.take l.length)[i]? = some p by rw [List.getElem?_take, if_pos hin]; exact hp))
          have HHU := Go.Lib.hid (show Holds (putG ru q i) ((l.take l.length).drop (l.length - (i + 1))) from by
            have h := holds_down (l := ru) (m := l.take l.length) (p := q) (v := (i : Int)) (j := j) (by rw [show j + 1 = l.length - i by omega]; exact hhu.out) (by rw [List.getElem?_take, if_pos (by omega)]; exact hq)
            rwa [show j = l.length - (i + 1) by omega] at h)
          obtain ⟨bl, off, rfl, hbl, k0, k1⟩ := (HV.out).at_ hp
          obtain ⟨bl2, off2, e2, hbl2, q0, q1⟩ := (HV.out).at_ hq
          injection e2 with e2
          injection e2 with e2 e3 _
          subst e2 e3
          have hpo := HV.out.2 p (List.mem_of_getElem? hp)
          have hqo := HV.out.2 q (List.mem_of_getElem? hq)
          have z0 : (0 : Int) ≤ (i : Int) := by omega
          have z1 : (i : Int) < (l.length : Int) := by omega
          have z2 : (i : Int) < (l.length : Int) := by omega
          have z3 : (0 : Int) ≤ (j : Int) := by omega
          have z4 : (j : Int) < (l.length : Int) := by omega
          have y1 : IntKind.i64.wrap ((l.length : Int) - 1) = (l.length : Int) - 1 := by rw [IntKind.wrap_i64]; omega
          have y2 : IntKind.i64.wrap ((l.length : Int) - 1 - (i : Int)) = (j : Int) := by rw [IntKind.wrap_i64]; omega
          have hw := few_wf (n := i) (by omega)
          have HK := Go.Lib.hid (fun (W : World) (h : Below w.heap.size w W) => (⟨(h.cell (p := ⟨bl, off + i * 2, none⟩) hbl).trans k0, (h.cell (p := ⟨bl, off + i * 2 + 1, none⟩) hbl).trans k1, (h.cell (p := ⟨bl, off + j * 2, none⟩) hbl2).trans q0, (h.cell (p := ⟨bl, off + j * 2 + 1, none⟩) hbl2).trans q1⟩ :
            W.cell? ⟨bl, off + i * 2, none⟩ = some (.int .u32 p.a) ∧ W.cell? ⟨bl, off + i * 2 + 1, none⟩ = some (.int .i64 p.n) ∧ W.cell? ⟨bl, off + j * 2, none⟩ = some (.int .u32 q.a) ∧ W.cell? ⟨bl, off + j * 2 + 1, none⟩ = some (.int .i64 q.n)))
          obtain ⟨c0, c1, c2, c3⟩ := HK.out _ hb.out
          have HL1 := Go.Lib.hid (show (putG rt p i).length ≤ i + 1 by have := putG_len rt p i; have := hlt.out; omega)
          have HL2 := Go.Lib.hid (show (putG ru q i).length ≤ i + 1 by have := putG_len ru q i; have := hlu.out; omega)
          have CP1 := Go.Lib.hid (two_put FT p i hS.out hb.out.size hpo hw (by have := hlt.out; omega))
          have CP3 := Go.Lib.hid (fun (W : World) (r : List Ent) (h : Two T w.heap.size tv r bu uv ru W) (h2 : bu ≤ W.heap.size) => two_put FT q i h.swap h2 hqo hw (by have := hlu.out; omega))
          obtain ⟨r1, hr1⟩ : ∃ r, r = putG rt p i := ⟨_, rfl⟩
          rw [← hr1] at CP1 HHT HL1
          have h900 : r1.length ≤ 800 := by have := HL1.out; omega
          unfold pV at CP1 CP3
          clear k0 k1 q0 q1 hbl hbl2 hp hq hj hr1 hpo hqo hw
          by_cases hig : i < gone.length
          case neg =>
            have x0 : decide ((i : Int) < (gone.length : Int)) = false := decide_eq_false (by omega)
            have x1 : decide (i < gone.length) = false := decide_eq_false hig
            have x2 : (i < gone.length) = False := eq_false hig
            have x3 : ((i : Int) < (gone.length : Int)) = False := eq_false (by omega)
            clear hig
            go_wp2_with (first
              | (go_at_call 24; refine (CP1.out).mono ?_; rintro e x ⟨y, gg, rfl, hs, hbx⟩; have S := Go.Lib.hid hs; have D := Go.Lib.hid (hb.out.trans hbx); have U := Go.Lib.hid (Nat.le_trans hbu.out hbx.size); obtain ⟨c0, c1, c2, c3⟩ := HK.out _ D.out; (try (obtain ⟨d0, d1⟩ := HKG.out _ D.out)); clear hs hbx CP1)
              | (go_at_call 24; refine (CP3.out _ _ S.out U.out).mono ?_; rintro e x ⟨y4, gg4, rfl, hs, hbx⟩; have S3 := Go.Lib.hid hs.swap; have U3 := Go.Lib.hid (Nat.le_trans U.out hbx.size); have D3 := Go.Lib.hid (D.out.trans (hbx.mono HBB.out)); clear hs hbx CP3))
            go_roundw
            case rel => exact ⟨i + 1, _, _, hin, by go_num, HL1, HL2, HHT, HHU, S3, D3, U3⟩
            case measure => simp [intOf]; omega
          case pos =>
            obtain ⟨g, hg⟩ : ∃ g, gone[i]? = some g := ⟨_, List.getElem?_eq_getElem hig⟩
            obtain ⟨bg, og, rfl, hbg, g0, g1⟩ := (HG.out).at_ hg
            have hgo := HG.out.2 g (List.mem_of_getElem? hg)
            have x0 : (i : Int) < (gone.length : Int) := by omega
            have HKG := Go.Lib.hid (fun (W : World) (h : Below w.heap.size w W) => (⟨(h.cell (p := ⟨bg, og + i * 2, none⟩) hbg).trans g0, (h.cell (p := ⟨bg, og + i * 2 + 1, none⟩) hbg).trans g1⟩ :
              W.cell? ⟨bg, og + i * 2, none⟩ = some (.int .u32 g.a) ∧ W.cell? ⟨bg, og + i * 2 + 1, none⟩ = some (.int .i64 g.n)))
            obtain ⟨d0, d1⟩ := HKG.out _ hb.out
            have CG := Go.Lib.hid (fun (W : World) (h : Two T w.heap.size tv r1 bu uv ru W) => two_get FT g h hgo)
            unfold pV at CG
            clear g0 g1 hbg hg hig
            cases hh : hasE r1 g with
            | true =>
              rw [hh] at CG
              clear hh
              go_wp2_with (first
                | (go_at_call 24; refine (CP1.out).mono ?_; rintro e x ⟨y, gg, rfl, hs, hbx⟩; have S := Go.Lib.hid hs; have D := Go.Lib.hid (hb.out.trans hbx); have U := Go.Lib.hid (Nat.le_trans hbu.out hbx.size); obtain ⟨c0, c1, c2, c3⟩ := HK.out _ D.out; (try (obtain ⟨d0, d1⟩ := HKG.out _ D.out)); clear hs hbx CP1)
                | (go_at_call 11; refine (CG.out _ S.out).mono ?_; rintro e x ⟨rfl, hbx⟩; replace S := Go.Lib.hid (S.out.keep FT hbx); replace U := Go.Lib.hid (Nat.le_trans U.out hbx.size); replace D := Go.Lib.hid (D.out.trans (hbx.mono D.out.size)); obtain ⟨c0, c1, c2, c3⟩ := HK.out _ D.out; (try (obtain ⟨d0, d1⟩ := HKG.out _ D.out)); clear hbx CG)
                | (go_at_call 24; refine (CP3.out _ _ S.out U.out).mono ?_; rintro e x ⟨y4, gg4, rfl, hs, hbx⟩; have S3 := Go.Lib.hid hs.swap; have U3 := Go.Lib.hid (Nat.le_trans U.out hbx.size); have D3 := Go.Lib.hid (D.out.trans (hbx.mono HBB.out)); clear hs hbx CP3))
              go_roundw
              case rel => exact ⟨i + 1, _, _, hin, by go_num, HL1, HL2, HHT, HHU, S3, D3, U3⟩
              case measure => simp [intOf]; omega
            | false =>
              rw [hh] at CG
              have HCUT := Go.Lib.hid (cut_putG (v := 7) (no_has hh))
              have CP2 := Go.Lib.hid (fun (W : World) (h : Two T w.heap.size tv r1 bu uv ru W) (h2 : w.heap.size ≤ W.heap.size) => two_put FT g 7 h h2 hgo (by decide) (by omega))
              have CC := Go.Lib.hid (fun (W : World) (h : Two T w.heap.size tv (putG r1 g 7) bu uv ru W) (h2 : w.heap.size ≤ W.heap.size) => two_cut FT g h h2 hgo (by have := putG_len r1 g 7; omega))
              rw [HCUT.out] at CC
              unfold pV at CP2 CC
              clear hh HCUT
              go_wp2_with (first
                | (go_at_call 24; refine (CP1.out).mono ?_; rintro e x ⟨y, gg, rfl, hs, hbx⟩; have S := Go.Lib.hid hs; have D := Go.Lib.hid (hb.out.trans hbx); have U := Go.Lib.hid (Nat.le_trans hbu.out hbx.size); obtain ⟨c0, c1, c2, c3⟩ := HK.out _ D.out; (try (obtain ⟨d0, d1⟩ := HKG.out _ D.out)); clear hs hbx CP1)
                | (go_at_call 11; refine (CG.out _ S.out).mono ?_; rintro e x ⟨rfl, hbx⟩; replace S := Go.Lib.hid (S.out.keep FT hbx); replace U := Go.Lib.hid (Nat.le_trans U.out hbx.size); replace D := Go.Lib.hid (D.out.trans (hbx.mono D.out.size)); obtain ⟨c0, c1, c2, c3⟩ := HK.out _ D.out; (try (obtain ⟨d0, d1⟩ := HKG.out _ D.out)); clear hbx CG)
                | (go_at_call 24; refine (CP2.out _ S.out D.out.size).mono ?_; rintro e x ⟨y2, gg2, rfl, hs, hbx⟩; replace S := Go.Lib.hid hs; replace U := Go.Lib.hid (Nat.le_trans U.out hbx.size); replace D := Go.Lib.hid (D.out.trans hbx); obtain ⟨c0, c1, c2, c3⟩ := HK.out _ D.out; (try (obtain ⟨d0, d1⟩ := HKG.out _ D.out)); clear hs hbx CP2)
                | (go_at_call 25; refine (CC.out _ S.out D.out.size).mono ?_; rintro e x ⟨y3, gg3, rfl, hs, hbx⟩; replace S := Go.Lib.hid hs; replace U := Go.Lib.hid (Nat.le_trans U.out hbx.size); replace D := Go.Lib.hid (D.out.trans hbx); obtain ⟨c0, c1, c2, c3⟩ := HK.out _ D.out; (try (obtain ⟨d0, d1⟩ := HKG.out _ D.out)); clear hs hbx CC)
                | (go_at_call 24; refine (CP3.out _ _ S.out U.out).mono ?_; rintro e x ⟨y4, gg4, rfl, hs, hbx⟩; have S3 := Go.Lib.hid hs.swap; have U3 := Go.Lib.hid (Nat.le_trans U.out hbx.size); have D3 := Go.Lib.hid (D.out.trans (hbx.mono HBB.out)); clear hs hbx CP3))
              go_roundw
              case rel => exact ⟨i + 1, _, _, hin, by go_num, HL1, HL2, HHT, HHU, S3, D3, U3⟩
              case measure => simp [intOf]; omega
        · have HI := Go.Lib.hid (show i = l.length by omega)
          have z1 : decide ((i : Int) < (l.length : Int)) = false := decide_eq_false (by omega)
          have he : keys rt = keys ru := holds_same (two_ord FT hS.out) (two_ord FT hS.out.swap) (m := l.take l.length) (by have h := hht.out; rwa [HI.out, List.take_of_length_le (by rw [List.length_take]; omega)] at h) (by have h := hhu.out; rwa [HI.out, Nat.sub_self, List.drop_zero] at h)
          have h1 : rt.length ≤ 900 := by have := hlt.out; omega
          have h2 : ru.length ≤ 900 := by have := hlu.out; omega
          obtain ⟨nn, hn1, hn2⟩ := two_nodes FT hS.out h1 h2 he
          have N1 := Go.Lib.hid hn1
          have N2 := Go.Lib.hid hn2
          have OK1 := Go.Lib.hid (two_oks FT hS.out)
          have OK2 := Go.Lib.hid (two_oks FT hS.out.swap)
          have CS := Go.Lib.hid (fun (va vb : Value) (W : World) (ha : Pfxs W va (keys rt)) (hb : Pfxs W vb (keys ru)) => refSameP_any va vb _ _ W ha hb)
          rw [decide_eq_true he] at CS
          have A1 := Go.Lib.hid (fun (W : World) (h : Below wr.heap.size wr W) => two_all FT (hS.out.keep FT h) h1)
          have A2 := Go.Lib.hid (fun (W : World) (h : Below wr.heap.size wr W) => two_all FT (hS.out.keep FT h).swap h2)
          have K1 := Go.Lib.hid (fun (W : World) (h : Below wr.heap.size wr W) => two_check FT (hS.out.keep FT h) h1)
          have K2 := Go.Lib.hid (fun (W : World) (h : Below wr.heap.size wr W) => two_check FT (hS.out.keep FT h).swap h2)
          have BX := Go.Lib.hid (Below.refl wr.heap.size wr)
          clear he hn1 hn2 h1 h2 hht hhu
          go_wp2_with (first
            | (go_at_call 20; (with_reducible refine (A1.out _ BX.out).mono ?_); rintro e x ⟨A5, c5, rfl, ho, hbx⟩; have PA := Go.Lib.hid (Pfxs.of_own ho OK1.out); replace BX := Go.Lib.hid (BX.out.trans (hbx.mono BX.out.size)); clear ho hbx)
            | (go_at_call 20; (with_reducible refine (A2.out _ BX.out).mono ?_); rintro e x ⟨A6, c6, rfl, ho, hbx⟩; have PB := Go.Lib.hid (Pfxs.of_own ho OK2.out); replace PA := Go.Lib.hid (PA.out.keep hbx); replace BX := Go.Lib.hid (BX.out.trans (hbx.mono BX.out.size)); clear ho hbx)
            | (go_at_call 14; (with_reducible refine (CS.out _ _ _ PA.out PB.out).mono ?_); rintro e x ⟨rfl, hbx⟩; replace BX := Go.Lib.hid (BX.out.trans (hbx.mono BX.out.size)); clear hbx)
            | (go_at_call 23; (with_reducible refine (N1.out _ BX.out).mono ?_); rintro e x ⟨rfl, hbx⟩; replace BX := Go.Lib.hid (BX.out.trans (hbx.mono BX.out.size)); clear hbx)
            | (go_at_call 23; (with_reducible refine (N2.out _ BX.out).mono ?_); rintro e x ⟨rfl, hbx⟩; replace BX := Go.Lib.hid (BX.out.trans (hbx.mono BX.out.size)); clear hbx)
            | (go_at_call 22; (with_reducible refine (K1.out _ BX.out).mono ?_); rintro e x ⟨rfl, hbx⟩; replace BX := Go.Lib.hid (BX.out.trans (hbx.mono BX.out.size)); clear hbx)
            | (go_at_call 22; (with_reducible refine (K2.out _ BX.out).mono ?_); rintro e x ⟨rfl, hbx⟩; replace BX := Go.Lib.hid (BX.out.trans (hbx.mono BX.out.size)); clear hbx)
            | (go_at_call 21; (with_reducible refine (LV.out _).mono ?_); rintro e x ⟨rfl, hbx⟩; replace BX := Go.Lib.hid (BX.out.trans (hbx.mono BX.out.size)); clear hbx))
          go_ret
          exact ⟨rfl, hb.out.trans (BX.out.mono hb.out.size)⟩
end Go.Proofs.Ytpcahgnibdampaa.Tri
