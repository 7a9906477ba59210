/- The law's Few of an Update. Plain facts on attributes that were cut. -/
import Derived.Test.YtlhdjdnflpilbaaGreatDoorH15
import Derived.Test.YtlhdjdnflpilbaaGreatDoorH41
import Derived.Test.YtlhdjdnflpilbaaGreatDoorH45
import Derived.Test.YtlhdjdnflpilbaaGreatDoorH17
import Derived.Test.YtlhdjdnflpilbaaGreatDoorH42
namespace Go.Proofs.YtlhdjdnflpilbaaGreatDoor.Upd
open Go.RowKit Mem Segm Oct Att Seg PR
def fewU (u : Up) : Up := ⟨u.gone.take 30, fewA u.at_, u.here.take 30⟩
theorem fewU_twice (u : Up) (h : fewA (fewA u.at_) = fewA u.at_) : fewU (fewU u) = fewU u := by
 unfold fewU
 dsimp only
 rw [h]
 simp [List.take_take]
set_option maxRecDepth 100000 in
set_option maxHeartbeats 8000000 in
theorem few10_any (va : Value) (u : Up) (w : World) (ha : Upds w va u) : Calls Tryz.prog 5 #[va] w (GivesU (fewU u) w) := by
 obtain ⟨vg, vp, vc, vh, rfl, hg, ht, hh⟩ := ha
 obtain ⟨g, a, h⟩ := u
 dsimp only at hg ht hh
 have HO := Go.Lib.hid (show Oks (g.take 30) ∧ Oks (h.take 30) from ⟨fun q hq => hg.2 q (List.mem_of_mem_take hq), fun q hq => hh.2 q (List.mem_of_mem_take hq)⟩)
 have C1 := Go.Lib.hid (fun W (hb : Below w.heap.size w W) => show Calls Tryz.prog 18 #[vg, .int .i64 30] W (GivesP (g.take 30) W) from few_any vg g 30 W (hg.keep hb) (by omega))
 have C2 := Go.Lib.hid (fun W (hb : Below w.heap.size w W) => few8_any _ a W (ht.keep hb))
 have C3 := Go.Lib.hid (fun W (hb : Below w.heap.size w W) => show Calls Tryz.prog 18 #[vh, .int .i64 30] W (GivesP (h.take 30) W) from few_any vh h 30 W (hh.keep hb) (by omega))
 unfold aV at C2
 have HF := Go.Lib.hid (show fewU ⟨g, a, h⟩ = ⟨g.take 30, fewA a, h.take 30⟩ from rfl)
 generalize fewU ⟨g, a, h⟩ = R at HF ⊢
 generalize g.take 30 = G at C1 HF HO
 generalize h.take 30 = H at C3 HF HO
 generalize fewA a = q at C2 HF
 have K := Go.Lib.hid (two_upds w a zeroA vg vp vc vh (.slice none 0 0) (.slice none 0 0) (.slice none 0 0) (.slice none 0 0))
 obtain ⟨p0, p1, p2, p3, p4, p5, p6, p7, p8, p9, p10⟩ := K.out.1.cells
 unfold uV
 clear hg ht hh
 go_enter Tryz.func5, Tryz.ntmps5
 go_wp2
 have hb : Below _ _ _ := (Below.refl ((w.alloc (.cells #[vg, .int .i64 a.has, .int .i64 a.origin, vp, .int .u32 a.hop, .int .u32 a.med, .int .u32 a.pref, .int .u32 a.aas, .int .u32 a.aid, vc, vh] 29)).alloc (.cells #[.slice none 0 0, .int .i64 0, .int .i64 0, .slice none 0 0, .int .u32 0, .int .u32 0, .int .u32 0, .int .u32 0, .int .u32 0, .slice none 0 0, .slice none 0 0] 29)).heap.size ((w.alloc (.cells #[vg, .int .i64 a.has, .int .i64 a.origin, vp, .int .u32 a.hop, .int .u32 a.med, .int .u32 a.pref, .int .u32 a.aas, .int .u32 a.aid, vc, vh] 29)).alloc (.cells #[.slice none 0 0, .int .i64 0, .int .i64 0, .slice none 0 0, .int .u32 0, .int .u32 0, .int .u32 0, .int .u32 0, .int .u32 0, .slice none 0 0, .slice none 0 0] 29))).drew
 replace K := Go.Lib.hid (And.intro (K.out.1.keep hb) (And.intro (K.out.2.1.keep hb) (K.out.2.2.trans (hb.mono K.out.2.2.size))))
 clear hb
 clear p0 p1 p2 p3 p4 p5 p6 p7 p8 p9 p10
 obtain ⟨p0, p1, p2, p3, p4, p5, p6, p7, p8, p9, p10⟩ := K.out.1.cells
 refine wp_region_noPanic ?_
 refine wp_region_held_drew (S := fun w' => w'.cell? ⟨w.heap.size, 0, none⟩ = some vg ∧ w'.cell? ⟨w.heap.size, 1, none⟩ = some (.int .i64 a.has) ∧ w'.cell? ⟨w.heap.size, 2, none⟩ = some (.int .i64 a.origin) ∧ w'.cell? ⟨w.heap.size, 3, none⟩ = some vp ∧ w'.cell? ⟨w.heap.size, 4, none⟩ = some (.int .u32 a.hop) ∧ w'.cell? ⟨w.heap.size, 5, none⟩ = some (.int .u32 a.med) ∧ w'.cell? ⟨w.heap.size, 6, none⟩ = some (.int .u32 a.pref) ∧ w'.cell? ⟨w.heap.size, 7, none⟩ = some (.int .u32 a.aas) ∧ w'.cell? ⟨w.heap.size, 8, none⟩ = some (.int .u32 a.aid) ∧ w'.cell? ⟨w.heap.size, 9, none⟩ = some vc ∧ w'.cell? ⟨w.heap.size, 10, none⟩ = some vh) (by kernel_rfl) ⟨p0, p1, p2, p3, p4, p5, p6, p7, p8, p9, p10⟩ (fun hHeld => ?_)
 refine Take.tk 0 3 hHeld ?_
 refine Take.tk 1 4 hHeld ?_
 refine Take.tk 3 6 hHeld ?_
 try simp only [Act.put, List.setIfInBounds_toArray, List.set_cons_zero, List.set_cons_succ]
 refine Take.tk 4 7 hHeld ?_
 refine Take.tk 6 9 hHeld ?_
 refine Take.tk 7 10 hHeld ?_
 try simp only [Act.put, List.setIfInBounds_toArray, List.set_cons_zero, List.set_cons_succ]
 try simp only [Act.put, List.setIfInBounds_toArray, List.set_cons_zero, List.set_cons_succ]
 refine wpAnyH_ready (rs := [2]) (by kernel_rfl) (by simp) ?_
 refine AllReadyH.cons (o := _) (by rfl) (fun K1 hK => ?_) AllReadyH.nil
 go_simp
 go_at_call 18; (refine (C1.out _ K.out.2.2).mono ?_; rintro e z ⟨A1, c1, rfl, ho, hb⟩; have hs := K.out.2.1.lt; replace K := Go.Lib.hid (And.intro (K.out.1.keep hb) (And.intro (K.out.2.1.keep hb) (K.out.2.2.trans (hb.mono K.out.2.2.size)))); have U1 := Go.Lib.hid (own_base ho (show w.heap.size + 1 + 1 ≤ _ from hs)); clear ho; clear hb hs; clear p0 p1 p2 p3 p4 p5 p6 p7 p8 p9 p10; obtain ⟨p0, p1, p2, p3, p4, p5, p6, p7, p8, p9, p10⟩ := K.out.1.cells)
 refine hK.out _ _ ⟨p0, p1, p2, p3, p4, p5, p6, p7, p8, p9, p10⟩ (fun hHeld1 => ?_)
 clear hK K1
 try simp only [Act.put, List.setIfInBounds_toArray, List.set_cons_zero, List.set_cons_succ]
 refine wpAnyH_ready (rs := [5]) (by kernel_rfl) (by simp) ?_
 refine AllReadyH.cons (o := _) (by rfl) (fun K1 hK => ?_) AllReadyH.nil
 go_simp
 go_at_call 19; (refine (C2.out _ K.out.2.2).mono ?_; rintro e z ⟨_, vq, vs, rfl, rfl, hq, hP, hC, hC32, hb⟩; have hs := K.out.2.1.lt; replace K := Go.Lib.hid (And.intro (K.out.1.keep hb) (And.intro (K.out.2.1.keep hb) (K.out.2.2.trans (hb.mono K.out.2.2.size)))); replace U1 := Go.Lib.hid (own_keep U1.out hb); have Q1 := Go.Lib.hid (And.intro hq (And.intro (hP.lower (show w.heap.size + 1 + 1 ≤ _ from hs) (show w.heap.size + 1 + 1 ≤ _ from hs)) (And.intro (U32s.of_own hC hC32) (newAt_row hC (show w.heap.size + 1 + 1 ≤ _ from hs))))); obtain ⟨ap, cp, rfl⟩ := hP.form; obtain ⟨ac, cc, rfl⟩ := own_form hC; clear hq hP hC hC32; dsimp only [acells]; clear hb hs; clear p0 p1 p2 p3 p4 p5 p6 p7 p8 p9 p10; obtain ⟨p0, p1, p2, p3, p4, p5, p6, p7, p8, p9, p10⟩ := K.out.1.cells)
 refine hK.out _ _ ⟨p0, p1, p2, p3, p4, p5, p6, p7, p8, p9, p10⟩ (fun hHeld2 => ?_)
 clear hK K1
 try simp only [Act.put, List.setIfInBounds_toArray, List.set_cons_zero, List.set_cons_succ]
 refine wpAnyH_ready (rs := [8]) (by kernel_rfl) (by simp) ?_
 refine AllReadyH.cons (o := _) (by rfl) (fun K1 hK => ?_) AllReadyH.nil
 go_simp
 go_at_call 18; (refine (C3.out _ K.out.2.2).mono ?_; rintro e z ⟨A3, c3, rfl, ho, hb⟩; have hs := K.out.2.1.lt; replace K := Go.Lib.hid (And.intro (K.out.1.keep hb) (And.intro (K.out.2.1.keep hb) (K.out.2.2.trans (hb.mono K.out.2.2.size)))); replace U1 := Go.Lib.hid (own_keep U1.out hb); replace Q1 := Go.Lib.hid (And.intro Q1.out.1 (And.intro (Q1.out.2.1.keep hb) (And.intro (Q1.out.2.2.1.keep hb) Q1.out.2.2.2))); have U3 := Go.Lib.hid (own_base ho (show w.heap.size + 1 + 1 ≤ _ from hs)); clear ho; clear hb hs; clear p0 p1 p2 p3 p4 p5 p6 p7 p8 p9 p10; obtain ⟨p0, p1, p2, p3, p4, p5, p6, p7, p8, p9, p10⟩ := K.out.1.cells)
 refine hK.out _ _ ⟨p0, p1, p2, p3, p4, p5, p6, p7, p8, p9, p10⟩ (fun hHeld3 => ?_)
 clear hK K1
 try simp only [Act.put, List.setIfInBounds_toArray, List.set_cons_zero, List.set_cons_succ]
 refine Take.tk 9 12 hHeld3 ?_
 try simp only [Act.put, List.setIfInBounds_toArray, List.set_cons_zero, List.set_cons_succ]
 have fr := K.out.2.1.free
 obtain ⟨e0, e1, e2, e3, e4, e5, e6, e7, e8, e9, e10⟩ := K.out.2.1.cells
 refine wpAnyH_ready (rs := [10]) (by kernel_rfl) (by simp) ?_
 refine AllReadyH.cons (o := _) (by rfl) (fun K1 hK => ?_) AllReadyH.nil
 go_simp
 have ho := elev_off z (w.heap.size + 1) q (.slice A1 G.length c1) (.slice ap q.path.length cp) (.slice ac q.comms.length cc) (.slice A3 H.length c3)
 have hx := (K.out.1.below (W' := elev z (w.heap.size + 1) q (.slice A1 G.length c1) (.slice ap q.path.length cp) (.slice ac q.comms.length cc) (.slice A3 H.length c3)) (fun k hk => ho.1 k (by omega))).cells
 have hy := (K.out.2.1.laid q (.slice A1 G.length c1) (.slice ap q.path.length cp) (.slice ac q.comms.length cc) (.slice A3 H.length c3)).cells
 clear fr e0 e1 e2 e3 e4 e5 e6 e7 e8 e9 e10 ho
 refine hK.out _ _ hx (fun hHeld4 => ?_)
 clear hK K1 hHeld4 hHeld3 hHeld2 hHeld1 hHeld p0 p1 p2 p3 p4 p5 p6 p7 p8 p9 p10 hx
 try simp only [Act.put, List.setIfInBounds_toArray, List.set_cons_zero, List.set_cons_succ]
 refine wpAnyH_done (by kernel_rfl) ?_ _
 refine NoPanic.normal ?_
 go_wp2
 (try simp only [Exit.inBlock, Exit.then])
 obtain ⟨r0, r1, r2, r3, r4, r5, r6, r7, r8, r9, r10⟩ := hy
 unfold elev at r0 r1 r2 r3 r4 r5 r6 r7 r8 r9 r10
 refine bodyPost_ret (v := uV q (.slice A1 G.length c1) (.slice ap q.path.length cp) (.slice ac q.comms.length cc) (.slice A3 H.length c3)) (by simp [results, Tryz.results5, go_sem, uV, r0, r1, r2, r3, r4, r5, r6, r7, r8, r9, r10]) rfl ?_
 have ho := elev_off z (w.heap.size + 1) q (.slice A1 G.length c1) (.slice ap q.path.length cp) (.slice ac q.comms.length cc) (.slice A3 H.length c3)
 have hlo := elev_low K.out.2.2 (B := w.heap.size + 1) (by omega) q (.slice A1 G.length c1) (.slice ap q.path.length cp) (.slice ac q.comms.length cc) (.slice A3 H.length c3)
 have hF : UpdF (w.heap.size + 1 + 1) z (uV q (.slice A1 G.length c1) (.slice ap q.path.length cp) (.slice ac q.comms.length cc) (.slice A3 H.length c3)) ⟨G, q, H⟩ := ⟨A1, c1, _, _, A3, c3, rfl, U1.out, HO.out.1, Q1.out, U3.out, HO.out.2⟩
 rw [HF.out]
 exact ⟨_, rfl, (hF.off (fun k hk => ho.1 k (by omega)) ho.2).lower (by omega), hlo⟩
end Go.Proofs.YtlhdjdnflpilbaaGreatDoor.Upd
namespace Go.Proofs.YtlhdjdnflpilbaaGreatDoor.Att
open Go.RowKit Mem Segm Oct Seg
theorem fewS_fit (p : List Piece) : (fewS p).length ≤ 12 ∧ FitS 300 (fewS p) := by
 unfold fewS
 refine ⟨by rw [List.length_map, List.length_take]; omega, fun s hs => ?_⟩
 obtain ⟨r, _, rfl⟩ := List.mem_map.1 hs
 unfold fewOne
 rw [List.length_take]
 omega
theorem fit_lens : ∀ (p : List Piece) (m : Nat), FitS m p → lens p ≤ m * p.length
 | [], m, _ => by simp [lens]
 | s :: p, m, h => by
  have h1 := fit_lens p m (fun x hx => h x (List.mem_cons_of_mem _ hx))
  have h2 := h s (List.mem_cons_self ..)
  have e : lens (s :: p) = s.2.length + lens p := by simp [lens]
  rw [e, List.length_cons, Nat.mul_succ]
  omega
theorem fewS_twice (p : List Piece) : fewS (fewS p) = fewS p := by
 unfold fewS
 rw [List.take_of_length_le (by rw [List.length_map, List.length_take]; omega), List.map_map]
 apply List.map_congr_left
 intro s _
 unfold fewOne
 simp [List.take_take]
theorem fewA_twice (a : At) : fewA (fewA a) = fewA a := by
 unfold fewA
 dsimp only
 rw [fewS_twice]
 simp [List.take_take]
structure Cut8 (a : At) : Prop where
 few : fewA a = a
 bk : bulk a.path ≤ 40000
 ln : lens a.path ≤ 100000
 fit : FitS 300 a.path
 cm : a.comms.length ≤ 260
theorem cut8_few (a : At) : Cut8 (fewA a) := by
 obtain ⟨h1, h2⟩ := fewS_fit a.path
 have h3 := fit_lens _ _ h2
 refine ⟨fewA_twice a, ?_, ?_, h2, ?_⟩
 ·show bulk (fewS a.path) ≤ 40000
  rw [bulk_is]; omega
 ·show lens (fewS a.path) ≤ 100000
  omega
 ·show (a.comms.take 260).length ≤ 260
  rw [List.length_take]; omega
theorem fit_more {m n : Nat} {p : List Piece} (h : FitS m p) (hm : m ≤ n) : FitS n p := fun s hs => Nat.le_trans (h s hs) hm
end Go.Proofs.YtlhdjdnflpilbaaGreatDoor.Att
