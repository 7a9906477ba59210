/- The law's does: an act done to a tree and to rows. The law TrieLean, out of what is asked of the tree. -/
import Derived.Test.YtpcahgnibdampaaP10
import Derived.Test.YtpcahgnibdampaaP13
import Derived.Laws.Tables
import Derived.Deep.Cut
namespace Go.Proofs.Ytpcahgnibdampaa.Tri
open Go.RowKit Mem PR Pfx Oct
def DoesF (T : Tree) (base : Nat) (v : Value) (l2 : List Ent) (F : Nat → Prop) (w : World) (e : Ending) (w' : World) : Prop :=
  ∃ lv t2 F2, e = .returned (.tuple #[lv, .bool true]) ∧ T w' base v t2 F2 ∧ ents t2 = l2 ∧ Rws w' lv l2 ∧ Lies w'.heap.size F2 lv ∧ Only F w w' ∧ Grow F F2 w
theorem idx_get {l : List Ent} {p : Pf} {i : Nat} {e : Ent} (h : posE l p = some i) (he : l[i]? = some e) : getE l p = some e.v := by
  obtain ⟨e', h1, h2, h3⟩ := stands_get (pos_stands h)
  rw [he] at h1
  injection h1 with h1
  rw [h1]; exact h3
theorem no_get {l : List Ent} {p : Pf} (h : posE l p = none) : getE l p = none := none_get (pos_no h)
theorem only_cell {F : Nat → Prop} {W W' : World} {b i : Nat} {u : Value} (h : Only F W W') (hb : b < W.heap.size) (hF : ¬ F b) (hc : W.cell? ⟨b, i, none⟩ = some u) : W'.cell? ⟨b, i, none⟩ = some u := by
  unfold World.cell? at hc ⊢
  simp only [h.block b hb hF]
  exact hc
theorem bad_get {t : Tr} {q : Pf} (hw : WF t) (h : goodP q = false) : getE (ents t) q = none := none_get fun e he hp => by
  have := (ents_good t hw e.p (key_mem he)).1
  rw [hp, h] at this
  cases this
theorem lies_next {G : Nat → Prop} {W2 W3 : World} {v0 v : Value} (hl : Lies W2.heap.size G v0) (hG : ∀ k, G k → k < W2.heap.size) (hs : W2.heap.size ≤ W3.heap.size) (h : v = v0 ∨ ∀ g, v.ownBlock = some g → W2.heap.size ≤ g ∧ g < W3.heap.size) : Lies W3.heap.size G v := by
  rcases h with rfl | h
  · exact Lies.size hl hs
  · exact lies_new hG h
theorem does_end {T : Tree} (FT : FaceT T) {w w1 w2 w3 : World} {base : Nat} {v lv0 lv : Value} {t2 : Tr} {F F2 : Nat → Prop} {l2 L : List Ent} (hF : Lies w.heap.size F lv0) (h1 : Below w.heap.size w w1) (hT2 : T w2 base v t2 F2) (hE : ents t2 = l2) (hO : Only F w1 w2) (hG : Grow F F2 w1) (hr : Rws w3 lv l2)
    (hl : lv = lv0 ∨ ∀ g, lv.ownBlock = some g → w2.heap.size ≤ g ∧ g < w3.heap.size) (h3 : Below w2.heap.size w2 w3) (hL : L = l2) : DoesF T base v L F w (.returned (.tuple #[lv, .bool true])) w3 := by
  subst hL
  exact ⟨lv, t2, F2, rfl, FT.keep hT2 (fun k hk => h3.block k (FT.low hT2 k hk).2) h3.size, hE, hr,
    lies_next (Lies.grow (Lies.size hF h1.size) hG hO.size) (fun k hk => (FT.low hT2 k hk).2) h3.size hl, (Only.of h1).trans (hO.trans (Only.of h3)), fun k hk => (hG k hk).imp id (fun hn => Nat.le_trans h1.size hn)⟩
set_option maxRecDepth 100000 in
set_option maxHeartbeats 32000000 in
theorem does_any {T : Tree} (FT : FaceT T) {w : World} {base : Nat} {v lv : Value} {t : Tr} {F : Nat → Prop} {l : List Ent} (a : Ac) (hT : T w base v t F) (hl : ents t = l) (hr : Rws w lv l) (hF : Lies w.heap.size F lv) (ha : a.ok) (hbase : base ≤ w.heap.size) (hlen : l.length ≤ 900) :
    Calls Try.prog 8 #[v, lv, acV a] w (DoesF T base v (doE l a) F w) := by
  have hok := actP_ok hr.2 ha
  have hlow := FT.low hT
  have hwf := FT.wf hT
  obtain ⟨q, hq⟩ : ∃ q, q = actP l a := ⟨_, rfl⟩
  have hdo : doE l a = if a.k = 1 ∨ a.k = 2 then cutE l q else if goodP q then putE l q a.v else l := by rw [hq]; rfl
  obtain ⟨L2, hL2⟩ : ∃ L, L = doE l a := ⟨_, rfl⟩
  rw [← hL2]
  rw [← hL2] at hdo
  have HDO := Go.Lib.hid hdo
  have hord : Ord l := hl ▸ ents_ord t hwf
  rw [← hq] at hok
  have HQ := Go.Lib.hid hq
  have HOK := Go.Lib.hid hok
  have HL := Go.Lib.hid hl
  have CA := Go.Lib.hid (fun (W : World) (h : Rws W lv l) => at_any lv l q W h)
  have CC := Go.Lib.hid (fun (W : World) (h : Rws W lv l) => rcut_any lv l q W h (by omega))
  have CP := Go.Lib.hid (fun (W : World) (h : Rws W lv l) => rput_any lv l q a.v W h hord hok ha.2.1 (by omega))
  have CG := Go.Lib.hid (fun (W : World) => refGood_any q.a q.n hok.1 W)
  have TC := Go.Lib.hid (fun (W : World) (h : Below w.heap.size w W) => FT.cut q (FT.keep hT (fun k hk => h.block k (hlow k hk).2) h.size) hok (Nat.le_trans hbase h.size) (by rw [hl]; omega))
  have TP := Go.Lib.hid (fun (W : World) (h : Below w.heap.size w W) => FT.put q a.v (FT.keep hT (fun k hk => h.block k (hlow k hk).2) h.size) hok ha.2.1 (Nat.le_trans hbase h.size) (by rw [hl]; omega))
  have HLW := Go.Lib.hid hlow
  have HBD := Go.Lib.hid (fun (h : goodP q = false) => show getE l q = none from hl ▸ bad_get hwf h)
  rw [hl] at TC TP
  have HR := Go.Lib.hid hr
  have HF := Go.Lib.hid hF
  -- what stands of the prefix
  obtain ⟨o, ho⟩ : ∃ o, o = posE l q := ⟨_, rfl⟩
  have HO := Go.Lib.hid ho
  rw [← ho] at CA
  obtain ⟨A, c, rfl, hlc, hc⟩ := hr.form
  obtain ⟨k, x, p⟩ := a
  obtain ⟨pa, pn⟩ := p
  unfold acV
  dsimp only at *
  have HPQ := Go.Lib.hid (show q = if k = 2 ∧ 0 < l.length ∧ 0 ≤ x then ((l[(x % (l.length : Int)).toNat]?).map (·.p)).getD ⟨pa, pn⟩ else ⟨pa, pn⟩ from HQ.out)
  obtain ⟨qa, qn⟩ := q
  unfold pV at CA CC CP TC TP
  dsimp only at *
  have hb1 : Below w.heap.size w ((w.alloc (.cells #[.int .i64 k, .int .i64 x, .int .u32 pa, .int .i64 pn] 32)).alloc (.cells #[.int .u32 qa, .int .i64 qn] 25)) := ((Below.refl _ w).alloc (Nat.le_refl _) _).alloc (by simp) _
  clear hT hl hr hF hq ho hdo hL2 HQ hord hok hlow hwf
  obtain ⟨W0, hW0⟩ : ∃ W0, W0 = (w.alloc (.cells #[.int .i64 k, .int .i64 x, .int .u32 pa, .int .i64 pn] 32)).alloc (.cells #[.int .u32 qa, .int .i64 qn] 25) := ⟨_, rfl⟩
  have HW0 := Go.Lib.hid hW0
  have e0 : W0.cell? ⟨w.heap.size, 0, none⟩ = some (.int .i64 k) := by rw [hW0]; simp [go_sem]
  have e1 : W0.cell? ⟨w.heap.size, 1, none⟩ = some (.int .i64 x) := by rw [hW0]; simp [go_sem]
  have e2 : W0.cell? ⟨w.heap.size + 1, 0, none⟩ = some (.int .u32 qa) := by rw [hW0]; simp [go_sem]
  have e3 : W0.cell? ⟨w.heap.size + 1, 1, none⟩ = some (.int .i64 qn) := by rw [hW0]; simp [go_sem]
  have hsz : W0.heap.size = w.heap.size + 2 := by rw [hW0]; simp
  rw [← hW0] at hb1
  have HB := Go.Lib.hid hb1
  have HK := Go.Lib.hid (fun (W : World) (h : Only F W0 W) => (⟨only_cell h (by omega) (fun hf => by have := (HLW.out _ hf).2; omega) e0, only_cell h (by omega) (fun hf => by have := (HLW.out _ hf).2; omega) e1, only_cell h (by omega) (fun hf => by have := (HLW.out _ hf).2; omega) e2, only_cell h (by omega) (fun hf => by have := (HLW.out _ hf).2; omega) e3⟩ :
    W.cell? ⟨w.heap.size, 0, none⟩ = some (.int .i64 k) ∧ W.cell? ⟨w.heap.size, 1, none⟩ = some (.int .i64 x) ∧ W.cell? ⟨w.heap.size + 1, 0, none⟩ = some (.int .u32 qa) ∧ W.cell? ⟨w.heap.size + 1, 1, none⟩ = some (.int .i64 qn)))
  clear hW0 hb1 hsz e0 e1 e2 e3
  have hc4 : k ≠ 2 ∨ (k = 2 ∧ l.length = 0) ∨ (k = 2 ∧ 0 < l.length ∧ x < 0) ∨ (k = 2 ∧ 0 < l.length ∧ 0 ≤ x) := by omega
  rcases hc4 with h | ⟨rfl, h⟩ | ⟨rfl, h, h2⟩ | ⟨rfl, h, h2⟩
  · focus
      have h9 := HPQ.out
      rw [if_neg (fun e => h e.1)] at h9
      injection h9 with h8 h9
      subst h8 h9
      have y1 : (k == 2) = false := by simpa using h
      go_enter Try.func8, Try.ntmps8
      go_upto_region 4 with fail
      rw [← HW0.out]
      clear HW0
    by_cases hk1 : k = 1
    · subst hk1
      obtain ⟨d0, d1, d2, d3⟩ := HK.out _ (Only.refl F W0)
      have R0 := Go.Lib.hid (HR.out.keep HB.out)
      rcases o with _ | i
      · have HV := Go.Lib.hid (show valE l ⟨qa, qn⟩ = 0 by unfold valE; rw [no_get HO.out.symm]; rfl)
        have HH := Go.Lib.hid (show hasE l ⟨qa, qn⟩ = false by unfold hasE; rw [no_get HO.out.symm]; rfl)
        have hne : decide ((0 : Int) ≤ -1) = false := by decide
        simp only [idxV] at CA
        go_wp2_with (first
          | (go_at_call 9; refine (CA.out _ R0.out).mono ?_; rintro e w1 ⟨rfl, hb⟩; obtain ⟨d0, d1, d2, d3⟩ := HK.out _ (Only.of (F := F) hb); have B1 := Go.Lib.hid (HB.out.trans (hb.mono HB.out.size)); have O1 := Go.Lib.hid (Only.of (F := F) hb); have R1 := Go.Lib.hid (HR.out.keep B1.out); try (have hyw := HY.out _ B1.out); clear hb)
          | (go_at_call 25; refine (TC.out _ B1.out).mono ?_; rintro e w2 ⟨t2, F2, he, hT2, hE2, hO2, hG2⟩; rw [HV.out, HH.out] at he; subst he; obtain ⟨d0, d1, d2, d3⟩ := HK.out _ (O1.out.trans hO2); have R2 := Go.Lib.hid (R1.out.only (Lies.size HF.out B1.out.size) hO2); have T2 := Go.Lib.hid hT2; have E2 := Go.Lib.hid hE2; have O2 := Go.Lib.hid hO2; have G2 := Go.Lib.hid hG2; clear hT2 hE2 hO2 hG2)
          | (go_at_call 26; refine (CC.out _ R2.out).mono ?_; rintro e w3 ⟨lv3, rfl, hr3, hl3, hb3⟩; have R3 := Go.Lib.hid hr3; have L3 := Go.Lib.hid hl3; have B3 := Go.Lib.hid hb3; clear hr3 hl3 hb3))
        go_ret2
        exact does_end FT HF.out B1.out T2.out E2.out O2.out G2.out R3.out L3.out B3.out (by rw [HDO.out, if_pos (by simp)])
      · obtain ⟨⟨y, hy, _⟩, _⟩ := pos_stands HO.out.symm
        obtain ⟨by_, oy, hA, hby, _, _, ky⟩ := (HR.out).at_ hy
        have HY := Go.Lib.hid (fun (W : World) (h : Below w.heap.size w W) => (h.cell (p := ⟨by_, oy + i * 3 + 2, none⟩) hby).trans ky)
        cases hA
        have HV := Go.Lib.hid (show valE l ⟨qa, qn⟩ = y.v by unfold valE; rw [idx_get HO.out.symm hy]; rfl)
        have HH := Go.Lib.hid (show hasE l ⟨qa, qn⟩ = true by unfold hasE; rw [idx_get HO.out.symm hy]; rfl)
        have hyl := (List.getElem?_eq_some_iff.1 hy).1
        have zi0 : (0 : Int) ≤ (i : Int) := by omega
        have zi1 : (i : Int) < (l.length : Int) := by omega
        have hyw := HY.out _ HB.out
        simp only [idxV] at CA
        generalize y.v = yv at *
        clear hy ky hby
        go_wp2_with (first
          | (go_at_call 9; refine (CA.out _ R0.out).mono ?_; rintro e w1 ⟨rfl, hb⟩; obtain ⟨d0, d1, d2, d3⟩ := HK.out _ (Only.of (F := F) hb); have B1 := Go.Lib.hid (HB.out.trans (hb.mono HB.out.size)); have O1 := Go.Lib.hid (Only.of (F := F) hb); have R1 := Go.Lib.hid (HR.out.keep B1.out); try (have hyw := HY.out _ B1.out); clear hb)
          | (go_at_call 25; refine (TC.out _ B1.out).mono ?_; rintro e w2 ⟨t2, F2, he, hT2, hE2, hO2, hG2⟩; rw [HV.out, HH.out] at he; subst he; obtain ⟨d0, d1, d2, d3⟩ := HK.out _ (O1.out.trans hO2); have R2 := Go.Lib.hid (R1.out.only (Lies.size HF.out B1.out.size) hO2); have T2 := Go.Lib.hid hT2; have E2 := Go.Lib.hid hE2; have O2 := Go.Lib.hid hO2; have G2 := Go.Lib.hid hG2; clear hT2 hE2 hO2 hG2)
          | (go_at_call 26; refine (CC.out _ R2.out).mono ?_; rintro e w3 ⟨lv3, rfl, hr3, hl3, hb3⟩; have R3 := Go.Lib.hid hr3; have L3 := Go.Lib.hid hl3; have B3 := Go.Lib.hid hb3; clear hr3 hl3 hb3))
        go_ret2
        exact does_end FT HF.out B1.out T2.out E2.out O2.out G2.out R3.out L3.out B3.out (by rw [HDO.out, if_pos (by simp)])
    · have y5 : (k == 1) = false := by simpa using hk1
      obtain ⟨d0, d1, d2, d3⟩ := HK.out _ (Only.refl F W0)
      have R0 := Go.Lib.hid (HR.out.keep HB.out)
      rcases o with _ | i
      · have HV := Go.Lib.hid (show valE l ⟨qa, qn⟩ = 0 by unfold valE; rw [no_get HO.out.symm]; rfl)
        have HH := Go.Lib.hid (show hasE l ⟨qa, qn⟩ = false by unfold hasE; rw [no_get HO.out.symm]; rfl)
        have hne : decide ((0 : Int) ≤ -1) = false := by decide
        simp only [idxV] at CA
        have hk12 : ¬ (k = 1 ∨ k = 2) := by omega
        cases hg : goodB qa qn with
        | false =>
          rw [hg] at CG
          have HG := Go.Lib.hid (show goodP ⟨qa, qn⟩ = false from hg)
          clear hg
          go_wp2_with (first
            | (go_at_call 9; refine (CA.out _ R0.out).mono ?_; rintro e w1 ⟨rfl, hb⟩; obtain ⟨d0, d1, d2, d3⟩ := HK.out _ (Only.of (F := F) hb); have B1 := Go.Lib.hid (HB.out.trans (hb.mono HB.out.size)); have O1 := Go.Lib.hid (Only.of (F := F) hb); have R1 := Go.Lib.hid (HR.out.keep B1.out); try (have hyw := HY.out _ B1.out); clear hb)
            | (go_at_call 24; refine (TP.out _ B1.out).mono ?_; rintro e w2 ⟨t2, F2, he, hT2, hE2, hO2, hG2⟩; rw [HV.out, HH.out] at he; subst he; obtain ⟨d0, d1, d2, d3⟩ := HK.out _ (O1.out.trans hO2); have R2 := Go.Lib.hid (R1.out.only (Lies.size HF.out B1.out.size) hO2); have T2 := Go.Lib.hid hT2; have E2 := Go.Lib.hid hE2; have O2 := Go.Lib.hid hO2; have G2 := Go.Lib.hid hG2; clear hT2 hE2 hO2 hG2)
            | (go_at_call 27; refine (CG.out _).mono ?_; rintro e w3 ⟨rfl, hb3⟩; obtain ⟨d0, d1, d2, d3⟩ := HK.out _ ((O1.out.trans O2.out).trans (Only.of hb3)); have R3 := Go.Lib.hid (R2.out.keep hb3); have B3 := Go.Lib.hid hb3; clear hb3))
          go_ret2
          exact does_end FT HF.out B1.out T2.out (E2.out.trans (by rw [HG.out, if_neg Bool.false_ne_true])) O2.out G2.out R3.out (.inl rfl) B3.out (by rw [HDO.out, if_neg hk12, HG.out, if_neg Bool.false_ne_true])
        | true =>
          rw [hg] at CG
          have HG := Go.Lib.hid (show goodP ⟨qa, qn⟩ = true from hg)
          clear hg
          go_wp2_with (first
            | (go_at_call 9; refine (CA.out _ R0.out).mono ?_; rintro e w1 ⟨rfl, hb⟩; obtain ⟨d0, d1, d2, d3⟩ := HK.out _ (Only.of (F := F) hb); have B1 := Go.Lib.hid (HB.out.trans (hb.mono HB.out.size)); have O1 := Go.Lib.hid (Only.of (F := F) hb); have R1 := Go.Lib.hid (HR.out.keep B1.out); try (have hyw := HY.out _ B1.out); clear hb)
            | (go_at_call 24; refine (TP.out _ B1.out).mono ?_; rintro e w2 ⟨t2, F2, he, hT2, hE2, hO2, hG2⟩; rw [HV.out, HH.out] at he; subst he; obtain ⟨d0, d1, d2, d3⟩ := HK.out _ (O1.out.trans hO2); have R2 := Go.Lib.hid (R1.out.only (Lies.size HF.out B1.out.size) hO2); have T2 := Go.Lib.hid hT2; have E2 := Go.Lib.hid hE2; have O2 := Go.Lib.hid hO2; have G2 := Go.Lib.hid hG2; clear hT2 hE2 hO2 hG2)
            | (go_at_call 27; refine (CG.out _).mono ?_; rintro e w3 ⟨rfl, hb3⟩; obtain ⟨d0, d1, d2, d3⟩ := HK.out _ ((O1.out.trans O2.out).trans (Only.of hb3)); have R3 := Go.Lib.hid (R2.out.keep hb3); have B3 := Go.Lib.hid hb3; clear hb3)
            | (go_at_call 28; refine (CP.out _ R3.out).mono ?_; rintro e w4 ⟨lv4, rfl, hr4, hl4, hb4⟩; have R4 := Go.Lib.hid hr4; have L4 := Go.Lib.hid hl4; have B4 := Go.Lib.hid hb4; clear hr4 hl4 hb4))
          go_ret2
          exact does_end FT HF.out B1.out (FT.keep T2.out (fun k hk => B3.out.block k (FT.low T2.out k hk).2) B3.out.size) (E2.out.trans (by rw [HG.out, if_pos rfl])) (O2.out.trans (Only.of B3.out)) G2.out R4.out L4.out B4.out (by rw [HDO.out, if_neg hk12, HG.out, if_pos rfl])
      · obtain ⟨⟨y, hy, _⟩, _⟩ := pos_stands HO.out.symm
        obtain ⟨by_, oy, hA, hby, _, _, ky⟩ := (HR.out).at_ hy
        have HY := Go.Lib.hid (fun (W : World) (h : Below w.heap.size w W) => (h.cell (p := ⟨by_, oy + i * 3 + 2, none⟩) hby).trans ky)
        cases hA
        have HV := Go.Lib.hid (show valE l ⟨qa, qn⟩ = y.v by unfold valE; rw [idx_get HO.out.symm hy]; rfl)
        have HH := Go.Lib.hid (show hasE l ⟨qa, qn⟩ = true by unfold hasE; rw [idx_get HO.out.symm hy]; rfl)
        have hyl := (List.getElem?_eq_some_iff.1 hy).1
        have zi0 : (0 : Int) ≤ (i : Int) := by omega
        have zi1 : (i : Int) < (l.length : Int) := by omega
        have hyw := HY.out _ HB.out
        simp only [idxV] at CA
        generalize y.v = yv at *
        clear hy ky hby
        have hk12 : ¬ (k = 1 ∨ k = 2) := by omega
        cases hg : goodB qa qn with
        | false =>
          have hvb : hasE l ⟨qa, qn⟩ = false := by unfold hasE; rw [HBD.out hg]; rfl
          rw [HH.out] at hvb
          cases hvb
        | true =>
          rw [hg] at CG
          have HG := Go.Lib.hid (show goodP ⟨qa, qn⟩ = true from hg)
          clear hg
          go_wp2_with (first
            | (go_at_call 9; refine (CA.out _ R0.out).mono ?_; rintro e w1 ⟨rfl, hb⟩; obtain ⟨d0, d1, d2, d3⟩ := HK.out _ (Only.of (F := F) hb); have B1 := Go.Lib.hid (HB.out.trans (hb.mono HB.out.size)); have O1 := Go.Lib.hid (Only.of (F := F) hb); have R1 := Go.Lib.hid (HR.out.keep B1.out); try (have hyw := HY.out _ B1.out); clear hb)
            | (go_at_call 24; refine (TP.out _ B1.out).mono ?_; rintro e w2 ⟨t2, F2, he, hT2, hE2, hO2, hG2⟩; rw [HV.out, HH.out] at he; subst he; obtain ⟨d0, d1, d2, d3⟩ := HK.out _ (O1.out.trans hO2); have R2 := Go.Lib.hid (R1.out.only (Lies.size HF.out B1.out.size) hO2); have T2 := Go.Lib.hid hT2; have E2 := Go.Lib.hid hE2; have O2 := Go.Lib.hid hO2; have G2 := Go.Lib.hid hG2; clear hT2 hE2 hO2 hG2)
            | (go_at_call 27; refine (CG.out _).mono ?_; rintro e w3 ⟨rfl, hb3⟩; obtain ⟨d0, d1, d2, d3⟩ := HK.out _ ((O1.out.trans O2.out).trans (Only.of hb3)); have R3 := Go.Lib.hid (R2.out.keep hb3); have B3 := Go.Lib.hid hb3; clear hb3)
            | (go_at_call 28; refine (CP.out _ R3.out).mono ?_; rintro e w4 ⟨lv4, rfl, hr4, hl4, hb4⟩; have R4 := Go.Lib.hid hr4; have L4 := Go.Lib.hid hl4; have B4 := Go.Lib.hid hb4; clear hr4 hl4 hb4))
          go_ret2
          exact does_end FT HF.out B1.out (FT.keep T2.out (fun k hk => B3.out.block k (FT.low T2.out k hk).2) B3.out.size) (E2.out.trans (by rw [HG.out, if_pos rfl])) (O2.out.trans (Only.of B3.out)) G2.out R4.out L4.out B4.out (by rw [HDO.out, if_neg hk12, HG.out, if_pos rfl])
  · focus
      have h9 := HPQ.out
      rw [if_neg (fun e => by omega)] at h9
      injection h9 with h8 h9
      subst h8 h9
      have y2 : decide (0 < (l.length : Int)) = false := decide_eq_false (by omega)
      have y2b : decide (0 < l.length) = false := decide_eq_false (by omega)
      have y2c : (0 < l.length) = False := eq_false (by omega)
      have y2d : (0 < (l.length : Int)) = False := eq_false (by omega)
      clear h
      go_enter Try.func8, Try.ntmps8
      go_upto_region 4 with fail
      rw [← HW0.out]
      clear HW0
    obtain ⟨d0, d1, d2, d3⟩ := HK.out _ (Only.refl F W0)
    have R0 := Go.Lib.hid (HR.out.keep HB.out)
    rcases o with _ | i
    · have HV := Go.Lib.hid (show valE l ⟨qa, qn⟩ = 0 by unfold valE; rw [no_get HO.out.symm]; rfl)
      have HH := Go.Lib.hid (show hasE l ⟨qa, qn⟩ = false by unfold hasE; rw [no_get HO.out.symm]; rfl)
      have hne : decide ((0 : Int) ≤ -1) = false := by decide
      simp only [idxV] at CA
      go_wp2_with (first
        | (go_at_call 9; refine (CA.out _ R0.out).mono ?_; rintro e w1 ⟨rfl, hb⟩; obtain ⟨d0, d1, d2, d3⟩ := HK.out _ (Only.of (F := F) hb); have B1 := Go.Lib.hid (HB.out.trans (hb.mono HB.out.size)); have O1 := Go.Lib.hid (Only.of (F := F) hb); have R1 := Go.Lib.hid (HR.out.keep B1.out); try (have hyw := HY.out _ B1.out); clear hb)
        | (go_at_call 25; refine (TC.out _ B1.out).mono ?_; rintro e w2 ⟨t2, F2, he, hT2, hE2, hO2, hG2⟩; rw [HV.out, HH.out] at he; subst he; obtain ⟨d0, d1, d2, d3⟩ := HK.out _ (O1.out.trans hO2); have R2 := Go.Lib.hid (R1.out.only (Lies.size HF.out B1.out.size) hO2); have T2 := Go.Lib.hid hT2; have E2 := Go.Lib.hid hE2; have O2 := Go.Lib.hid hO2; have G2 := Go.Lib.hid hG2; clear hT2 hE2 hO2 hG2)
        | (go_at_call 26; refine (CC.out _ R2.out).mono ?_; rintro e w3 ⟨lv3, rfl, hr3, hl3, hb3⟩; have R3 := Go.Lib.hid hr3; have L3 := Go.Lib.hid hl3; have B3 := Go.Lib.hid hb3; clear hr3 hl3 hb3))
      go_ret2
      exact does_end FT HF.out B1.out T2.out E2.out O2.out G2.out R3.out L3.out B3.out (by rw [HDO.out, if_pos (by simp)])
    · obtain ⟨⟨y, hy, _⟩, _⟩ := pos_stands HO.out.symm
      obtain ⟨by_, oy, hA, hby, _, _, ky⟩ := (HR.out).at_ hy
      have HY := Go.Lib.hid (fun (W : World) (h : Below w.heap.size w W) => (h.cell (p := ⟨by_, oy + i * 3 + 2, none⟩) hby).trans ky)
      cases hA
      have HV := Go.Lib.hid (show valE l ⟨qa, qn⟩ = y.v by unfold valE; rw [idx_get HO.out.symm hy]; rfl)
      have HH := Go.Lib.hid (show hasE l ⟨qa, qn⟩ = true by unfold hasE; rw [idx_get HO.out.symm hy]; rfl)
      have hyl := (List.getElem?_eq_some_iff.1 hy).1
      have zi0 : (0 : Int) ≤ (i : Int) := by omega
      have zi1 : (i : Int) < (l.length : Int) := by omega
      have hyw := HY.out _ HB.out
      simp only [idxV] at CA
      generalize y.v = yv at *
      clear hy ky hby
      go_wp2_with (first
        | (go_at_call 9; refine (CA.out _ R0.out).mono ?_; rintro e w1 ⟨rfl, hb⟩; obtain ⟨d0, d1, d2, d3⟩ := HK.out _ (Only.of (F := F) hb); have B1 := Go.Lib.hid (HB.out.trans (hb.mono HB.out.size)); have O1 := Go.Lib.hid (Only.of (F := F) hb); have R1 := Go.Lib.hid (HR.out.keep B1.out); try (have hyw := HY.out _ B1.out); clear hb)
        | (go_at_call 25; refine (TC.out _ B1.out).mono ?_; rintro e w2 ⟨t2, F2, he, hT2, hE2, hO2, hG2⟩; rw [HV.out, HH.out] at he; subst he; obtain ⟨d0, d1, d2, d3⟩ := HK.out _ (O1.out.trans hO2); have R2 := Go.Lib.hid (R1.out.only (Lies.size HF.out B1.out.size) hO2); have T2 := Go.Lib.hid hT2; have E2 := Go.Lib.hid hE2; have O2 := Go.Lib.hid hO2; have G2 := Go.Lib.hid hG2; clear hT2 hE2 hO2 hG2)
        | (go_at_call 26; refine (CC.out _ R2.out).mono ?_; rintro e w3 ⟨lv3, rfl, hr3, hl3, hb3⟩; have R3 := Go.Lib.hid hr3; have L3 := Go.Lib.hid hl3; have B3 := Go.Lib.hid hb3; clear hr3 hl3 hb3))
      go_ret2
      exact does_end FT HF.out B1.out T2.out E2.out O2.out G2.out R3.out L3.out B3.out (by rw [HDO.out, if_pos (by simp)])
  · focus
      have h9 := HPQ.out
      rw [if_neg (fun e => by omega)] at h9
      injection h9 with h8 h9
      subst h8 h9
      have y2 : decide (0 < (l.length : Int)) = true := decide_eq_true (by omega)
      have y3 : decide (0 ≤ x) = false := decide_eq_false (by omega)
      go_enter Try.func8, Try.ntmps8
      go_upto_region 4 with fail
      rw [← HW0.out]
      clear HW0
    obtain ⟨d0, d1, d2, d3⟩ := HK.out _ (Only.refl F W0)
    have R0 := Go.Lib.hid (HR.out.keep HB.out)
    rcases o with _ | i
    · have HV := Go.Lib.hid (show valE l ⟨qa, qn⟩ = 0 by unfold valE; rw [no_get HO.out.symm]; rfl)
      have HH := Go.Lib.hid (show hasE l ⟨qa, qn⟩ = false by unfold hasE; rw [no_get HO.out.symm]; rfl)
      have hne : decide ((0 : Int) ≤ -1) = false := by decide
      simp only [idxV] at CA
      go_wp2_with (first
        | (go_at_call 9; refine (CA.out _ R0.out).mono ?_; rintro e w1 ⟨rfl, hb⟩; obtain ⟨d0, d1, d2, d3⟩ := HK.out _ (Only.of (F := F) hb); have B1 := Go.Lib.hid (HB.out.trans (hb.mono HB.out.size)); have O1 := Go.Lib.hid (Only.of (F := F) hb); have R1 := Go.Lib.hid (HR.out.keep B1.out); try (have hyw := HY.out _ B1.out); clear hb)
        | (go_at_call 25; refine (TC.out _ B1.out).mono ?_; rintro e w2 ⟨t2, F2, he, hT2, hE2, hO2, hG2⟩; rw [HV.out, HH.out] at he; subst he; obtain ⟨d0, d1, d2, d3⟩ := HK.out _ (O1.out.trans hO2); have R2 := Go.Lib.hid (R1.out.only (Lies.size HF.out B1.out.size) hO2); have T2 := Go.Lib.hid hT2; have E2 := Go.Lib.hid hE2; have O2 := Go.Lib.hid hO2; have G2 := Go.Lib.hid hG2; clear hT2 hE2 hO2 hG2)
        | (go_at_call 26; refine (CC.out _ R2.out).mono ?_; rintro e w3 ⟨lv3, rfl, hr3, hl3, hb3⟩; have R3 := Go.Lib.hid hr3; have L3 := Go.Lib.hid hl3; have B3 := Go.Lib.hid hb3; clear hr3 hl3 hb3))
      go_ret2
      exact does_end FT HF.out B1.out T2.out E2.out O2.out G2.out R3.out L3.out B3.out (by rw [HDO.out, if_pos (by simp)])
    · obtain ⟨⟨y, hy, _⟩, _⟩ := pos_stands HO.out.symm
      obtain ⟨by_, oy, hA, hby, _, _, ky⟩ := (HR.out).at_ hy
      have HY := Go.Lib.hid (fun (W : World) (h : Below w.heap.size w W) => (h.cell (p := ⟨by_, oy + i * 3 + 2, none⟩) hby).trans ky)
      cases hA
      have HV := Go.Lib.hid (show valE l ⟨qa, qn⟩ = y.v by unfold valE; rw [idx_get HO.out.symm hy]; rfl)
      have HH := Go.Lib.hid (show hasE l ⟨qa, qn⟩ = true by unfold hasE; rw [idx_get HO.out.symm hy]; rfl)
      have hyl := (List.getElem?_eq_some_iff.1 hy).1
      have zi0 : (0 : Int) ≤ (i : Int) := by omega
      have zi1 : (i : Int) < (l.length : Int) := by omega
      have hyw := HY.out _ HB.out
      simp only [idxV] at CA
      generalize y.v = yv at *
      clear hy ky hby
      go_wp2_with (first
        | (go_at_call 9; refine (CA.out _ R0.out).mono ?_; rintro e w1 ⟨rfl, hb⟩; obtain ⟨d0, d1, d2, d3⟩ := HK.out _ (Only.of (F := F) hb); have B1 := Go.Lib.hid (HB.out.trans (hb.mono HB.out.size)); have O1 := Go.Lib.hid (Only.of (F := F) hb); have R1 := Go.Lib.hid (HR.out.keep B1.out); try (have hyw := HY.out _ B1.out); clear hb)
        | (go_at_call 25; refine (TC.out _ B1.out).mono ?_; rintro e w2 ⟨t2, F2, he, hT2, hE2, hO2, hG2⟩; rw [HV.out, HH.out] at he; subst he; obtain ⟨d0, d1, d2, d3⟩ := HK.out _ (O1.out.trans hO2); have R2 := Go.Lib.hid (R1.out.only (Lies.size HF.out B1.out.size) hO2); have T2 := Go.Lib.hid hT2; have E2 := Go.Lib.hid hE2; have O2 := Go.Lib.hid hO2; have G2 := Go.Lib.hid hG2; clear hT2 hE2 hO2 hG2)
        | (go_at_call 26; refine (CC.out _ R2.out).mono ?_; rintro e w3 ⟨lv3, rfl, hr3, hl3, hb3⟩; have R3 := Go.Lib.hid hr3; have L3 := Go.Lib.hid hl3; have B3 := Go.Lib.hid hb3; clear hr3 hl3 hb3))
      go_ret2
      exact does_end FT HF.out B1.out T2.out E2.out O2.out G2.out R3.out L3.out B3.out (by rw [HDO.out, if_pos (by simp)])
  · focus
      have h9 := HPQ.out
      rw [if_pos ⟨rfl, h, h2⟩] at h9
      have hm0 := Int.emod_nonneg x (show (l.length : Int) ≠ 0 by omega)
      have hm1 := Int.emod_lt_of_pos x (show (0 : Int) < (l.length : Int) by omega)
      obtain ⟨j, hj⟩ : ∃ j : Nat, x % (l.length : Int) = (j : Int) := ⟨_, (Int.toNat_of_nonneg hm0).symm⟩
      rw [hj] at h9 hm1
      have hjl : j < l.length := by omega
      obtain ⟨r, hrj⟩ : ∃ r, l[j]? = some r := ⟨_, List.getElem?_eq_getElem hjl⟩
      rw [Int.toNat_natCast, hrj] at h9
      have h7 : (⟨qa, qn⟩ : Pf) = r.p := h9
      obtain ⟨bl, off, rfl, hbl, k0, k1, _⟩ := (HR.out).at_ hrj
      rw [← h7] at k0 k1
      dsimp only at k0 k1
      have y2 : decide (0 < (l.length : Int)) = true := decide_eq_true (by omega)
      have y3 : decide (0 ≤ x) = true := decide_eq_true (by omega)
      have y4 : ((l.length : Int) == 0) = false := beq_eq_false_iff_ne.2 (by omega)
      have y5 : Int.tmod x (l.length : Int) = (j : Int) := by rw [Int.tmod_eq_emod_of_nonneg h2, hj]
      have z0 : (0 : Int) ≤ (j : Int) := by omega
      have z1 : (j : Int) < (l.length : Int) := by omega
      clear h7 h9 hrj hm0 hj hm1 HPQ
      go_enter Try.func8, Try.ntmps8
      go_upto_region 4 with fail
      rw [← HW0.out]
      clear HW0
    obtain ⟨d0, d1, d2, d3⟩ := HK.out _ (Only.refl F W0)
    have R0 := Go.Lib.hid (HR.out.keep HB.out)
    rcases o with _ | i
    · have HV := Go.Lib.hid (show valE l ⟨qa, qn⟩ = 0 by unfold valE; rw [no_get HO.out.symm]; rfl)
      have HH := Go.Lib.hid (show hasE l ⟨qa, qn⟩ = false by unfold hasE; rw [no_get HO.out.symm]; rfl)
      have hne : decide ((0 : Int) ≤ -1) = false := by decide
      simp only [idxV] at CA
      go_wp2_with (first
        | (go_at_call 9; refine (CA.out _ R0.out).mono ?_; rintro e w1 ⟨rfl, hb⟩; obtain ⟨d0, d1, d2, d3⟩ := HK.out _ (Only.of (F := F) hb); have B1 := Go.Lib.hid (HB.out.trans (hb.mono HB.out.size)); have O1 := Go.Lib.hid (Only.of (F := F) hb); have R1 := Go.Lib.hid (HR.out.keep B1.out); try (have hyw := HY.out _ B1.out); clear hb)
        | (go_at_call 25; refine (TC.out _ B1.out).mono ?_; rintro e w2 ⟨t2, F2, he, hT2, hE2, hO2, hG2⟩; rw [HV.out, HH.out] at he; subst he; obtain ⟨d0, d1, d2, d3⟩ := HK.out _ (O1.out.trans hO2); have R2 := Go.Lib.hid (R1.out.only (Lies.size HF.out B1.out.size) hO2); have T2 := Go.Lib.hid hT2; have E2 := Go.Lib.hid hE2; have O2 := Go.Lib.hid hO2; have G2 := Go.Lib.hid hG2; clear hT2 hE2 hO2 hG2)
        | (go_at_call 26; refine (CC.out _ R2.out).mono ?_; rintro e w3 ⟨lv3, rfl, hr3, hl3, hb3⟩; have R3 := Go.Lib.hid hr3; have L3 := Go.Lib.hid hl3; have B3 := Go.Lib.hid hb3; clear hr3 hl3 hb3))
      go_ret2
      exact does_end FT HF.out B1.out T2.out E2.out O2.out G2.out R3.out L3.out B3.out (by rw [HDO.out, if_pos (by simp)])
    · obtain ⟨⟨y, hy, _⟩, _⟩ := pos_stands HO.out.symm
      obtain ⟨by_, oy, hA, hby, _, _, ky⟩ := (HR.out).at_ hy
      have HY := Go.Lib.hid (fun (W : World) (h : Below w.heap.size w W) => (h.cell (p := ⟨by_, oy + i * 3 + 2, none⟩) hby).trans ky)
      cases hA
      have HV := Go.Lib.hid (show valE l ⟨qa, qn⟩ = y.v by unfold valE; rw [idx_get HO.out.symm hy]; rfl)
      have HH := Go.Lib.hid (show hasE l ⟨qa, qn⟩ = true by unfold hasE; rw [idx_get HO.out.symm hy]; rfl)
      have hyl := (List.getElem?_eq_some_iff.1 hy).1
      have zi0 : (0 : Int) ≤ (i : Int) := by omega
      have zi1 : (i : Int) < (l.length : Int) := by omega
      have hyw := HY.out _ HB.out
      simp only [idxV] at CA
      generalize y.v = yv at *
      clear hy ky hby
      go_wp2_with (first
        | (go_at_call 9; refine (CA.out _ R0.out).mono ?_; rintro e w1 ⟨rfl, hb⟩; obtain ⟨d0, d1, d2, d3⟩ := HK.out _ (Only.of (F := F) hb); have B1 := Go.Lib.hid (HB.out.trans (hb.mono HB.out.size)); have O1 := Go.Lib.hid (Only.of (F := F) hb); have R1 := Go.Lib.hid (HR.out.keep B1.out); try (have hyw := HY.out _ B1.out); clear hb)
        | (go_at_call 25; refine (TC.out _ B1.out).mono ?_; rintro e w2 ⟨t2, F2, he, hT2, hE2, hO2, hG2⟩; rw [HV.out, HH.out] at he; subst he; obtain ⟨d0, d1, d2, d3⟩ := HK.out _ (O1.out.trans hO2); have R2 := Go.Lib.hid (R1.out.only (Lies.size HF.out B1.out.size) hO2); have T2 := Go.Lib.hid hT2; have E2 := Go.Lib.hid hE2; have O2 := Go.Lib.hid hO2; have G2 := Go.Lib.hid hG2; clear hT2 hE2 hO2 hG2)
        | (go_at_call 26; refine (CC.out _ R2.out).mono ?_; rintro e w3 ⟨lv3, rfl, hr3, hl3, hb3⟩; have R3 := Go.Lib.hid hr3; have L3 := Go.Lib.hid hl3; have B3 := Go.Lib.hid hb3; clear hr3 hl3 hb3))
      go_ret2
      exact does_end FT HF.out B1.out T2.out E2.out O2.out G2.out R3.out L3.out B3.out (by rw [HDO.out, if_pos (by simp)])
end Go.Proofs.Ytpcahgnibdampaa.Tri
namespace Go.Proofs.Ytpcahgnibdampaa.Tri
open Go.RowKit Mem PR Pfx Oct
def PairT (T : Tree) (base : Nat) (v lv : Value) (l : List Ent) (w : World) : Prop :=
  ∃ t F, T w base v t F ∧ ents t = l ∧ Rws w lv l ∧ Lies w.heap.size F lv
theorem PairT.keep {T : Tree} (FT : FaceT T) {base : Nat} {v lv : Value} {l : List Ent} {w w' : World} (h : PairT T base v lv l w) (hb : Below w.heap.size w w') : PairT T base v lv l w' := by
  obtain ⟨t, F, h1, h2, h3, h4⟩ := h
  exact ⟨t, F, FT.keep h1 (fun k hk => hb.block k (FT.low h1 k hk).2) hb.size, h2, h3.keep hb, Lies.size h4 hb.size⟩
theorem pair_does {T : Tree} (FT : FaceT T) {w : World} {base : Nat} {v lv : Value} {l : List Ent} (a : Ac) (h : PairT T base v lv l w) (ha : a.ok) (hbase : base ≤ w.heap.size) (hlen : l.length ≤ 900) :
    Calls Try.prog 8 #[v, lv, acV a] w fun e w' => ∃ lv2, e = .returned (.tuple #[lv2, .bool true]) ∧ PairT T base v lv2 (doE l a) w' ∧ Below base w w' := by
  obtain ⟨t, F, h1, h2, h3, h4⟩ := h
  refine (does_any FT a h1 h2 h3 h4 ha hbase hlen).mono ?_
  rintro e w' ⟨lv2, t2, F2, rfl, q1, q2, q3, q4, q5, q6⟩
  exact ⟨lv2, rfl, ⟨t2, F2, q1, q2, q3, q4⟩, q5.below (fun k hk => (FT.low h1 k hk).1) hbase⟩
theorem pair_new {T : Tree} (FT : FaceT T) {w w1 : World} {v : Value} {F : Nat → Prop} {tt : TypeId} (hT : T w1 w.heap.size v .nil F) : PairT T w.heap.size v (.slice (some ⟨w1.heap.size, 0, none⟩) 0 0) [] (w1.alloc (.cells #[] tt)) := by
  have hb : Below w1.heap.size w1 (w1.alloc (.cells #[] tt)) := (Below.refl _ _).alloc (Nat.le_refl _) _
  have ho := own_blk3 (base := w1.heap.size) (t := tt) (Nat.le_refl _) (heap_alloc_new w1 (.cells #[] tt))
  exact ⟨.nil, F, FT.keep hT (fun k hk => hb.block k (FT.low hT k hk).2) hb.size, rfl, Rws.of_own (l := []) ho (fun e he => by cases he), lies_new (fun k hk => (FT.low hT k hk).2) (fun g hg => ho.lt g hg)⟩
theorem pair_form {T : Tree} {w : World} {base : Nat} {v lv : Value} {l : List Ent} (h : PairT T base v lv l w) : ∃ A c, lv = .slice A l.length c := by
  obtain ⟨t, F, -, -, h3, -⟩ := h
  obtain ⟨A, c, h4, -, -⟩ := h3.form
  exact ⟨A, c, h4⟩
end Go.Proofs.Ytpcahgnibdampaa.Tri
