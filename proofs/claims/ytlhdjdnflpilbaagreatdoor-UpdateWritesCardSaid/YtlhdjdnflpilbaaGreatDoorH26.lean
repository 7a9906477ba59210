/- The program's Good of an Update. The program's Size of an Update. The program's Encode of an Update. The program's Encode of any Update that is not too many bytes' source. The laws' small living call: one prefix that is gone. The reference's Encode of an Update. -/
import Derived.Test.YtlhdjdnflpilbaaGreatDoorH23
import Derived.Test.YtlhdjdnflpilbaaGreatDoorH15
import Derived.Test.YtlhdjdnflpilbaaGreatDoorH25
import Derived.Test.YtlhdjdnflpilbaaGreatDoorH06
import Derived.Test.YtlhdjdnflpilbaaGreatDoorH17
import Derived.Test.YtlhdjdnflpilbaaGreatDoorH13
import Derived.Test.YtlhdjdnflpilbaaGreatDoorH14
import Derived.Deep.RegionHeld3
namespace Go.Proofs.YtlhdjdnflpilbaaGreatDoor.Upd
open Go.RowKit Mem Segm Oct Att Seg PR
theorem field0 (k s : Int) (A : Option Addr) (n c : Nat) (x : World) : (Instr.field 41 (.agg #[.int .i64 k, .int .i64 s, .slice A n c]) 0).run Tryz.prog x = .ok (.int .i64 k) x := by kernel_rfl
theorem code_well (h : Int) : (wellN h).code = if wellB h then 0 else 3 := by
 cases hw : wellB h with
 | true => rw [wellN_yes hw]; rfl
 | false => obtain ⟨k, -, -, e⟩ := wellN_no hw; rw [e]; rfl
set_option maxRecDepth 100000 in
set_option maxHeartbeats 4000000 in
theorem ugood_any (va : Value) (a : Up) (w : World) (ha : Upds w va a) (hln : lens a.at_.path ≤ 100000) : Calls Tryz.prog 7 #[va] w (Tells (.bool (goodU a)) w) := by
 obtain ⟨vg, vp, vc, vh, rfl, hg, ht, hh⟩ := ha
 obtain ⟨ag, a, ah⟩ := a
 dsimp only at hg ht hh hln ⊢
 have C1 := Go.Lib.hid (fun W (h : Below w.heap.size w W) => goods_any vg _ W (hg.keep h))
 have C2 := Go.Lib.hid (fun W (h : Below w.heap.size w W) => goods_any vh _ W (hh.keep h))
 have C3 := Go.Lib.hid (fun W (h : Below w.heap.size w W) => sameA_any _ _ _ _ W (ht.keep h) (attrs_zero W))
 have C4 := Go.Lib.hid (fun W (h : Below w.heap.size w W) => good_any _ _ W (ht.keep h) hln)
 have C5 := Go.Lib.hid (fun W (h : Below w.heap.size w W) => (show Calls Tryz.prog 28 #[aV a vp vc] W (fun e w' => ∃ A n c, e = .returned (.agg #[.int .i64 (if wellB a.has then 0 else 3), .int .i64 (wellN a.has).sub, .slice A n c]) ∧ Below W.heap.size W w') from (well_any _ _ W (ht.keep h)).mono fun e w' ⟨v', h1, h2, h3⟩ => by
  obtain ⟨-, -, vd, h4, h5⟩ := h2
  obtain ⟨A, c, rfl, -, -⟩ := h5.form
  refine ⟨A, (wellN a.has).data.length, c, ?_, h3⟩
  rw [h1, h4, code_well]))
 obtain ⟨A, c, rfl, hlc, hc⟩ := hh.form
 unfold goodU
 dsimp only
 unfold aV at C3 C4 C5
 generalize (wellN a.has).sub = ns at C5
 generalize ag.all good = b1 at C1 ⊢
 generalize ah.all good = b2 at C2 ⊢
 generalize sameA a zeroA = b3 at C3 ⊢
 generalize goodA a = b4 at C4 ⊢
 generalize wellB a.has = b5 at C5 ⊢
 have S0 := Go.Lib.hid (And.intro (BoxU.new w 29 a vg vp vc (.slice A ah.length c)) ((Below.refl w.heap.size w).alloc (Nat.le_refl _) (.cells #[vg, .int .i64 a.has, .int .i64 a.origin, vp, .int .u32 a.hop, .int .u32 a.med, .int .u32 a.pref, .int .u32 a.aas, .int .u32 a.aid, vc, (.slice A ah.length c)] 29)))
 obtain ⟨p0, p1, p2, p3, p4, p5, p6, p7, p8, p9, p10⟩ := S0.out.1.cells
 unfold uV
 clear hg ht hh hln
 cases b1 with
 | false =>
  simp only [Bool.false_and]
  go_enter Tryz.func7, Tryz.ntmps7
  go_wp2_with (first
   | (have tok := S0.out; go_at_call 25; (refine (C1.out _ S0.out.2).mono ?_; rintro e x ⟨rfl, hb⟩; have S1 := Go.Lib.hid (And.intro (S0.out.1.keep hb) (S0.out.2.trans (hb.mono S0.out.2.size))); clear hb tok S0; clear p0 p1 p2 p3 p4 p5 p6 p7 p8 p9 p10; obtain ⟨p0, p1, p2, p3, p4, p5, p6, p7, p8, p9, p10⟩ := S1.out.1.cells)))
  go_ret
  exact ⟨rfl, S1.out.2⟩
 | true =>
 cases b2 with
 | false =>
  simp only [Bool.and_false, Bool.false_and]
  go_enter Tryz.func7, Tryz.ntmps7
  go_wp2_with (first
   | (have tok := S0.out; go_at_call 25; (refine (C1.out _ S0.out.2).mono ?_; rintro e x ⟨rfl, hb⟩; have S1 := Go.Lib.hid (And.intro (S0.out.1.keep hb) (S0.out.2.trans (hb.mono S0.out.2.size))); clear hb tok S0; clear p0 p1 p2 p3 p4 p5 p6 p7 p8 p9 p10; obtain ⟨p0, p1, p2, p3, p4, p5, p6, p7, p8, p9, p10⟩ := S1.out.1.cells))
   | (have tok := S1.out; go_at_call 25; (refine (C2.out _ S1.out.2).mono ?_; rintro e x ⟨rfl, hb⟩; have S2 := Go.Lib.hid (And.intro (S1.out.1.keep hb) (S1.out.2.trans (hb.mono S1.out.2.size))); clear hb tok S1; clear p0 p1 p2 p3 p4 p5 p6 p7 p8 p9 p10; obtain ⟨p0, p1, p2, p3, p4, p5, p6, p7, p8, p9, p10⟩ := S2.out.1.cells)))
  go_ret
  exact ⟨rfl, S2.out.2⟩
 | true =>
 simp only [Bool.true_and]
 by_cases hz : ah = []
 ·have zl : ((ah.length : Nat) : Int) = 0 := by rw [hz]; rfl
  have y1 : ((ah.length : Int) == 0) = true := by simp [hz]
  rw [if_pos hz]
  clear hz zl
  go_enter Tryz.func7, Tryz.ntmps7
  go_wp2_with (first
   | (have tok := S0.out; go_at_call 25; (refine (C1.out _ S0.out.2).mono ?_; rintro e x ⟨rfl, hb⟩; have S1 := Go.Lib.hid (And.intro (S0.out.1.keep hb) (S0.out.2.trans (hb.mono S0.out.2.size))); clear hb tok S0; clear p0 p1 p2 p3 p4 p5 p6 p7 p8 p9 p10; obtain ⟨p0, p1, p2, p3, p4, p5, p6, p7, p8, p9, p10⟩ := S1.out.1.cells))
   | (have tok := S1.out; go_at_call 25; (refine (C2.out _ S1.out.2).mono ?_; rintro e x ⟨rfl, hb⟩; have S2 := Go.Lib.hid (And.intro (S1.out.1.keep hb) (S1.out.2.trans (hb.mono S1.out.2.size))); clear hb tok S1; clear p0 p1 p2 p3 p4 p5 p6 p7 p8 p9 p10; obtain ⟨p0, p1, p2, p3, p4, p5, p6, p7, p8, p9, p10⟩ := S2.out.1.cells))
   | (have tok := S2.out; go_at_call 26; (refine (C3.out _ S2.out.2).mono ?_; rintro e x ⟨rfl, hb⟩; have S3 := Go.Lib.hid (And.intro (S2.out.1.keep hb) (S2.out.2.trans (hb.mono S2.out.2.size))); clear hb tok S2; clear p0 p1 p2 p3 p4 p5 p6 p7 p8 p9 p10; obtain ⟨p0, p1, p2, p3, p4, p5, p6, p7, p8, p9, p10⟩ := S3.out.1.cells)))
  go_ret
  exact ⟨rfl, S3.out.2⟩
 ·have y1 : ((ah.length : Int) == 0) = false := by simpa using hz
  rw [if_neg hz]
  clear hz
  cases b4 with
  | false =>
   simp only [Bool.false_and]
   go_enter Tryz.func7, Tryz.ntmps7
   go_wp2_with (first
    | (have tok := S0.out; go_at_call 25; (refine (C1.out _ S0.out.2).mono ?_; rintro e x ⟨rfl, hb⟩; have S1 := Go.Lib.hid (And.intro (S0.out.1.keep hb) (S0.out.2.trans (hb.mono S0.out.2.size))); clear hb tok S0; clear p0 p1 p2 p3 p4 p5 p6 p7 p8 p9 p10; obtain ⟨p0, p1, p2, p3, p4, p5, p6, p7, p8, p9, p10⟩ := S1.out.1.cells))
    | (have tok := S1.out; go_at_call 25; (refine (C2.out _ S1.out.2).mono ?_; rintro e x ⟨rfl, hb⟩; have S2 := Go.Lib.hid (And.intro (S1.out.1.keep hb) (S1.out.2.trans (hb.mono S1.out.2.size))); clear hb tok S1; clear p0 p1 p2 p3 p4 p5 p6 p7 p8 p9 p10; obtain ⟨p0, p1, p2, p3, p4, p5, p6, p7, p8, p9, p10⟩ := S2.out.1.cells))
    | (have tok := S2.out; go_at_call 27; (refine (C4.out _ S2.out.2).mono ?_; rintro e x ⟨rfl, hb⟩; have S3 := Go.Lib.hid (And.intro (S2.out.1.keep hb) (S2.out.2.trans (hb.mono S2.out.2.size))); clear hb tok S2; clear p0 p1 p2 p3 p4 p5 p6 p7 p8 p9 p10; obtain ⟨p0, p1, p2, p3, p4, p5, p6, p7, p8, p9, p10⟩ := S3.out.1.cells)))
   go_ret
   exact ⟨rfl, S3.out.2⟩
  | true =>
  simp only [Bool.true_and]
  cases b5 with
  | false =>
   rw [if_neg (by decide)] at C5
   go_enter Tryz.func7, Tryz.ntmps7
   go_wp2_with (first
    | (have tok := S0.out; go_at_call 25; (refine (C1.out _ S0.out.2).mono ?_; rintro e x ⟨rfl, hb⟩; have S1 := Go.Lib.hid (And.intro (S0.out.1.keep hb) (S0.out.2.trans (hb.mono S0.out.2.size))); clear hb tok S0; clear p0 p1 p2 p3 p4 p5 p6 p7 p8 p9 p10; obtain ⟨p0, p1, p2, p3, p4, p5, p6, p7, p8, p9, p10⟩ := S1.out.1.cells))
    | (have tok := S1.out; go_at_call 25; (refine (C2.out _ S1.out.2).mono ?_; rintro e x ⟨rfl, hb⟩; have S2 := Go.Lib.hid (And.intro (S1.out.1.keep hb) (S1.out.2.trans (hb.mono S1.out.2.size))); clear hb tok S1; clear p0 p1 p2 p3 p4 p5 p6 p7 p8 p9 p10; obtain ⟨p0, p1, p2, p3, p4, p5, p6, p7, p8, p9, p10⟩ := S2.out.1.cells))
    | (have tok := S2.out; go_at_call 27; (refine (C4.out _ S2.out.2).mono ?_; rintro e x ⟨rfl, hb⟩; have S3 := Go.Lib.hid (And.intro (S2.out.1.keep hb) (S2.out.2.trans (hb.mono S2.out.2.size))); clear hb tok S2; clear p0 p1 p2 p3 p4 p5 p6 p7 p8 p9 p10; obtain ⟨p0, p1, p2, p3, p4, p5, p6, p7, p8, p9, p10⟩ := S3.out.1.cells))
    | (have tok := S3.out; go_at_call 28; (refine (C5.out _ S3.out.2).mono ?_; rintro e x ⟨Aw, nw, cw, rfl, hb⟩; have ff := field0 3 ns Aw nw cw x; have S4 := Go.Lib.hid (And.intro (S3.out.1.keep hb) (S3.out.2.trans (hb.mono S3.out.2.size))); clear hb tok S3; clear p0 p1 p2 p3 p4 p5 p6 p7 p8 p9 p10; obtain ⟨p0, p1, p2, p3, p4, p5, p6, p7, p8, p9, p10⟩ := S4.out.1.cells)))
   go_ret
   exact ⟨rfl, S4.out.2⟩
  | true =>
   rw [if_pos rfl] at C5
   go_enter Tryz.func7, Tryz.ntmps7
   go_wp2_with (first
    | (have tok := S0.out; go_at_call 25; (refine (C1.out _ S0.out.2).mono ?_; rintro e x ⟨rfl, hb⟩; have S1 := Go.Lib.hid (And.intro (S0.out.1.keep hb) (S0.out.2.trans (hb.mono S0.out.2.size))); clear hb tok S0; clear p0 p1 p2 p3 p4 p5 p6 p7 p8 p9 p10; obtain ⟨p0, p1, p2, p3, p4, p5, p6, p7, p8, p9, p10⟩ := S1.out.1.cells))
    | (have tok := S1.out; go_at_call 25; (refine (C2.out _ S1.out.2).mono ?_; rintro e x ⟨rfl, hb⟩; have S2 := Go.Lib.hid (And.intro (S1.out.1.keep hb) (S1.out.2.trans (hb.mono S1.out.2.size))); clear hb tok S1; clear p0 p1 p2 p3 p4 p5 p6 p7 p8 p9 p10; obtain ⟨p0, p1, p2, p3, p4, p5, p6, p7, p8, p9, p10⟩ := S2.out.1.cells))
    | (have tok := S2.out; go_at_call 27; (refine (C4.out _ S2.out.2).mono ?_; rintro e x ⟨rfl, hb⟩; have S3 := Go.Lib.hid (And.intro (S2.out.1.keep hb) (S2.out.2.trans (hb.mono S2.out.2.size))); clear hb tok S2; clear p0 p1 p2 p3 p4 p5 p6 p7 p8 p9 p10; obtain ⟨p0, p1, p2, p3, p4, p5, p6, p7, p8, p9, p10⟩ := S3.out.1.cells))
    | (have tok := S3.out; go_at_call 28; (refine (C5.out _ S3.out.2).mono ?_; rintro e x ⟨Aw, nw, cw, rfl, hb⟩; have ff := field0 0 ns Aw nw cw x; have S4 := Go.Lib.hid (And.intro (S3.out.1.keep hb) (S3.out.2.trans (hb.mono S3.out.2.size))); clear hb tok S3; clear p0 p1 p2 p3 p4 p5 p6 p7 p8 p9 p10; obtain ⟨p0, p1, p2, p3, p4, p5, p6, p7, p8, p9, p10⟩ := S4.out.1.cells)))
   go_ret
   exact ⟨rfl, S4.out.2⟩
end Go.Proofs.YtlhdjdnflpilbaaGreatDoor.Upd
namespace Go.Proofs.YtlhdjdnflpilbaaGreatDoor.Upd
open Go.RowKit Mem Segm Oct Att Seg PR
theorem encs_sum {l : List Pf} (h : l.all good = true) : (encs l).length = sumN l := by
 induction l with
 | nil => rfl
 | cons p l ih =>
  simp only [List.all_cons, Bool.and_eq_true] at h
  unfold encs sumN at ih ⊢
  rw [List.flatMap_cons, List.length_append, List.map_cons, List.sum_cons, ih h.2, enc_len h.1]
theorem encU_len (u : Up) : (encU u).length = 4 + (encs u.gone).length + (encA u.at_).length + (encs u.here).length := by
 unfold encU
 simp only [List.length_append, big_len]
 omega
def sizeU (u : Up) : Nat := if goodU u then (encU u).length else 0
set_option maxRecDepth 100000 in
set_option maxHeartbeats 8000000 in
theorem usize_any (va : Value) (a : Up) (w : World) (ha : Upds w va a) (hS : Shp w) (hln : lens a.at_.path ≤ 100000) (hl1 : a.gone.length ≤ 1000) (hl2 : a.here.length ≤ 1000) : Calls Tryz.prog 11 #[va] w (Tells (.int .i64 (sizeU a)) w) := by
 have CGd := Go.Lib.hid (fun W (h : Below w.heap.size w W) => ugood_any va a W (ha.keep h) hln)
 obtain ⟨vg, vp, vc, vh, rfl, hg, ht, hh⟩ := ha
 have C1 := Go.Lib.hid (fun W (h : Below w.heap.size w W) => lsize_any vg _ W (hg.keep h) (by omega))
 have C2 := Go.Lib.hid (fun W (h : Below w.heap.size w W) => asize_any _ _ W (ht.keep h) (hS.keep h) hln)
 have C3 := Go.Lib.hid (fun W (h : Below w.heap.size w W) => lsize_any vh _ W (hh.keep h) (by omega))
 unfold uV at CGd ⊢
 unfold aV at C2
 have S0 := Go.Lib.hid (And.intro (BoxU.new w 29 a.at_ vg vp vc vh) ((Below.refl w.heap.size w).alloc (Nat.le_refl _) (.cells #[vg, .int .i64 a.at_.has, .int .i64 a.at_.origin, vp, .int .u32 a.at_.hop, .int .u32 a.at_.med, .int .u32 a.at_.pref, .int .u32 a.at_.aas, .int .u32 a.at_.aid, vc, vh] 29)))
 obtain ⟨p0, p1, p2, p3, p4, p5, p6, p7, p8, p9, p10⟩ := S0.out.1.cells
 have HG := Go.Lib.hid (show ∀ b, goodU a = b → goodU a = b from fun _ h => h)
 cases hgu : goodU a with
 | false =>
  rw [hgu] at CGd
  have HU := Go.Lib.hid hgu
  clear hg ht hh hln hgu
  go_enter Tryz.func11, Tryz.ntmps11
  go_wp2_with (first
   | (have tok := S0.out; go_at_call 7; (refine (CGd.out _ S0.out.2).mono ?_; rintro e x ⟨rfl, hb⟩; have S1 := Go.Lib.hid (And.intro (S0.out.1.keep hb) (S0.out.2.trans (hb.mono S0.out.2.size))); clear hb tok S0; clear p0 p1 p2 p3 p4 p5 p6 p7 p8 p9 p10; obtain ⟨p0, p1, p2, p3, p4, p5, p6, p7, p8, p9, p10⟩ := S1.out.1.cells)))
  go_ret
  exact ⟨by unfold sizeU; rw [HU.out]; rfl, S1.out.2⟩
 | true =>
 rw [hgu] at CGd
 have HU := Go.Lib.hid hgu
 obtain ⟨g1, g2, g3⟩ := goodU_at hgu
 have hes := encU_len a
 rw [encs_sum g1, encs_sum g2] at hes
 have b1 := sumN_le a.gone
 have b2 := sumN_le a.here
 have b3 : (encA a.at_).length ≤ 100000 := by have h1 := encTo_len g3 8; show (encTo a.at_ 8).length ≤ _; omega
 rw [show sizeA a.at_ = (encA a.at_).length by unfold sizeA; rw [g3]; rfl] at C2
 generalize (encA a.at_).length = s2 at C2 hes b3
 generalize sumN a.gone = s1 at C1 hes b1
 generalize sumN a.here = s3 at C3 hes b2
 obtain ⟨t1, ht1⟩ : ∃ t, t = 4 + s1 := ⟨_, rfl⟩
 obtain ⟨t2, ht2⟩ : ∃ t, t = t1 + s2 := ⟨_, rfl⟩
 obtain ⟨t3, ht3⟩ : ∃ t, t = t2 + s3 := ⟨_, rfl⟩
 have q1 : IntKind.i64.wrap (4 + (s1 : Int)) = (t1 : Int) := by rw [IntWalk.i64_in _ (by omega)]; omega
 have q2 : IntKind.i64.wrap ((t1 : Int) + (s2 : Int)) = (t2 : Int) := by rw [IntWalk.i64_in _ (by omega)]; omega
 have q3 : IntKind.i64.wrap ((t2 : Int) + (s3 : Int)) = (t3 : Int) := by rw [IntWalk.i64_in _ (by omega)]; omega
 have HR := Go.Lib.hid (show sizeU a = t3 from by unfold sizeU; rw [HU.out, if_pos rfl, hes]; omega)
 clear hg ht hh hln hgu g1 g2 g3 hes b1 b2 b3 ht1 ht2 ht3 hl1 hl2
 go_enter Tryz.func11, Tryz.ntmps11
 go_upto_region 3 with (first
  | (have tok := S0.out; go_at_call 7; (refine (CGd.out _ S0.out.2).mono ?_; rintro e wc ⟨rfl, hb⟩; have S1 := Go.Lib.hid (And.intro (S0.out.1.keep hb) (S0.out.2.trans (hb.mono S0.out.2.size))); clear hb tok S0; clear p0 p1 p2 p3 p4 p5 p6 p7 p8 p9 p10; obtain ⟨p0, p1, p2, p3, p4, p5, p6, p7, p8, p9, p10⟩ := S1.out.1.cells)))
 have HKC := Go.Lib.hid (fun (W : World) (h : Below wc.heap.size wc W) => (S1.out.1.keep h).cells)
 have HBW := Go.Lib.hid (fun (W : World) (h : Below wc.heap.size wc W) => S1.out.2.trans (h.mono S1.out.2.size))
 have BW := Go.Lib.hid (Below.refl wc.heap.size wc).drew
 unfold UCells at HKC
 refine wp_region_noPanic ?_
 refine wp_region_held_drew (S := (fun w' => w'.cell? ⟨w.heap.size, 0, none⟩ = some vg ∧ w'.cell? ⟨w.heap.size, 1, none⟩ = some (.int .i64 a.at_.has) ∧ w'.cell? ⟨w.heap.size, 2, none⟩ = some (.int .i64 a.at_.origin) ∧ w'.cell? ⟨w.heap.size, 3, none⟩ = some vp ∧ w'.cell? ⟨w.heap.size, 4, none⟩ = some (.int .u32 a.at_.hop) ∧ w'.cell? ⟨w.heap.size, 5, none⟩ = some (.int .u32 a.at_.med) ∧ w'.cell? ⟨w.heap.size, 6, none⟩ = some (.int .u32 a.at_.pref) ∧ w'.cell? ⟨w.heap.size, 7, none⟩ = some (.int .u32 a.at_.aas) ∧ w'.cell? ⟨w.heap.size, 8, none⟩ = some (.int .u32 a.at_.aid) ∧ w'.cell? ⟨w.heap.size, 9, none⟩ = some vc ∧ w'.cell? ⟨w.heap.size, 10, none⟩ = some vh)) (by kernel_rfl) (HKC.out _ BW.out) (fun hHeld => ?_)
 refine Take.tk 0 6 hHeld ?_
 refine Take.tk 1 7 hHeld ?_
 refine Take.tk 4 10 hHeld ?_
 try simp only [Act.put, List.setIfInBounds_toArray, List.set_cons_zero, List.set_cons_succ]
 refine Take.tk 5 11 hHeld ?_
 refine Take.tk 8 14 hHeld ?_
 refine Take.tk 9 15 hHeld ?_
 try simp only [Act.put, List.setIfInBounds_toArray, List.set_cons_zero, List.set_cons_succ]
 refine wpAnyH_ready (rs := [2]) (by kernel_rfl) (by simp) ?_
 refine AllReadyH.cons (o := ⟨some 8, .call { callee := .value (.func 35), args := #[.tmp 7], argTypes := #[22] }, 3, "update.go:35", #[⟨1, .data⟩], none⟩) rfl (fun K hK => ?_) AllReadyH.nil
 go_simp
 go_at_call 35; refine (C1.out _ (HBW.out _ BW.out)).mono ?_; rintro e x ⟨rfl, hb⟩; replace BW := Go.Lib.hid (BW.out.trans (hb.mono BW.out.size)); clear hb
 (try go_wp2_with fail)
 refine hK.out _ _ (HKC.out _ BW.out) (fun hHeld1 => ?_)
 clear hK K
 try simp only [Act.put, List.setIfInBounds_toArray, List.set_cons_zero, List.set_cons_succ]
 refine Take.tk (v := .int .i64 t1) 3 9 hHeld1 ?_
 refine wpAnyH_ready (rs := [6]) (by kernel_rfl) (by simp) ?_
 refine AllReadyH.cons (o := ⟨some 12, .call { callee := .value (.func 36), args := #[.tmp 11], argTypes := #[27] }, 3, "update.go:35", #[⟨5, .data⟩, ⟨2, .chain⟩], none⟩) rfl (fun K hK => ?_) AllReadyH.nil
 go_simp
 go_at_call 36; refine (C2.out _ (HBW.out _ BW.out)).mono ?_; rintro e x ⟨rfl, hb⟩; replace BW := Go.Lib.hid (BW.out.trans (hb.mono BW.out.size)); clear hb
 (try go_wp2_with fail)
 refine hK.out _ _ (HKC.out _ BW.out) (fun hHeld2 => ?_)
 clear hK K
 try simp only [Act.put, List.setIfInBounds_toArray, List.set_cons_zero, List.set_cons_succ]
 refine Take.tk (v := .int .i64 t2) 7 13 hHeld2 ?_
 refine wpAnyH_ready (rs := [10]) (by kernel_rfl) (by simp) ?_
 refine AllReadyH.cons (o := ⟨some 16, .call { callee := .value (.func 35), args := #[.tmp 15], argTypes := #[22] }, 3, "update.go:35", #[⟨9, .data⟩, ⟨6, .chain⟩], none⟩) rfl (fun K hK => ?_) AllReadyH.nil
 go_simp
 go_at_call 35; refine (C3.out _ (HBW.out _ BW.out)).mono ?_; rintro e x ⟨rfl, hb⟩; replace BW := Go.Lib.hid (BW.out.trans (hb.mono BW.out.size)); clear hb
 (try go_wp2_with fail)
 refine hK.out _ _ (HKC.out _ BW.out) (fun hHeld3 => ?_)
 clear hK K
 try simp only [Act.put, List.setIfInBounds_toArray, List.set_cons_zero, List.set_cons_succ]
 refine Take.tk (v := .int .i64 t3) 11 17 hHeld3 ?_
 try simp only [Act.put, List.setIfInBounds_toArray, List.set_cons_zero, List.set_cons_succ]
 refine Take.tk (v := .int .i64 t3) 12 2 hHeld3 ?_
 refine wpAnyH_done (by kernel_rfl) ?_ _
 refine NoPanic.normal ?_
 go_wp2
 go_ret
 exact ⟨by rw [HR.out]; rfl, HBW.out _ BW.out⟩
end Go.Proofs.YtlhdjdnflpilbaaGreatDoor.Upd
namespace Go.Proofs.YtlhdjdnflpilbaaGreatDoor.Upd
open Go.RowKit Mem Segm Oct Att Seg PR
theorem big_two (n : Nat) : [lo8 ((n : Int) / 256), lo8 (n : Int)] = big n 2 := by
 rw [big2, show lo8 ((n : Int) / 256) = n / 256 % 256 from by unfold lo8; omega, lo8_nat]
theorem longS_is {m : List Nat} (h : m.length ≤ 65535) : longS m = big m.length 2 ++ m := by
 unfold longS
 rw [if_pos h, big_two]
def EncOk (E : List Nat) (w : World) (e : Ending) (w' : World) : Prop := ∃ A c, e = .returned (.tuple #[.slice A E.length c, .int .i64 0]) ∧ w'.ownsRow w.heap.size 5 1 (.slice A E.length c) E.length (cells8 E) ∧ Below w.heap.size w w'
structure UeSt (w3 : World) (l : List Nat) (F : Nat → Prop) (W : World) : Prop where
 wr : Wr W w3.heap.size (.pointer (some ⟨w3.heap.size, 0, none⟩)) l F
 low : Below w3.heap.size w3 W
theorem UeSt.add {w3 W W2 : World} {l l2 : List Nat} {F : Nat → Prop} {x : Value} {e : Ending} (h : UeSt w3 l F W) (k : AddF w3.heap.size (.pointer (some ⟨w3.heap.size, 0, none⟩)) x l2 F W e W2) : ∃ F2, e = .returned x ∧ UeSt w3 l2 F2 W2 := by
 obtain ⟨F2, h1, h2, h3, -⟩ := k
 exact ⟨F2, h1, h2, h.low.trans (h3.below (fun k hk => (h.wr.lt k hk).1) h.low.size)⟩
theorem ue_start (w3 : World) : UeSt w3 [] (fun k => k = w3.heap.size) (w3.alloc (.cells #[.slice none 0 0] 52)) := ⟨wr_zero w3 (Nat.le_refl _), (Below.refl _ w3).alloc (Nat.le_refl _) _⟩
theorem UeSt.is {w3 W : World} {l m : List Nat} {F : Nat → Prop} (h : UeSt w3 l F W) (e : l = m) : UeSt w3 m F W := e ▸ h
set_option maxRecDepth 100000 in
set_option maxHeartbeats 4000000 in
theorem uenc_bad (va : Value) (a : Up) (w : World) (ha : Upds w va a) (hln : lens a.at_.path ≤ 100000) (hgu : goodU a = false) : Calls Tryz.prog 6 #[va] w (Tells (.tuple #[.slice none 0 0, .int .i64 1]) w) := by
 have CGd := Go.Lib.hid (fun W (h : Below w.heap.size w W) => ugood_any va a W (ha.keep h) hln)
 obtain ⟨vg, vp, vc, vh, rfl, hg, ht, hh⟩ := ha
 have S0 := Go.Lib.hid (And.intro (BoxU.new w 29 a.at_ vg vp vc vh) ((Below.refl w.heap.size w).alloc (Nat.le_refl _) (.cells #[vg, .int .i64 a.at_.has, .int .i64 a.at_.origin, vp, .int .u32 a.at_.hop, .int .u32 a.at_.med, .int .u32 a.at_.pref, .int .u32 a.at_.aas, .int .u32 a.at_.aid, vc, vh] 29)))
 unfold uV at CGd ⊢
 rw [hgu] at CGd
 obtain ⟨p0, p1, p2, p3, p4, p5, p6, p7, p8, p9, p10⟩ := S0.out.1.cells
 clear hg ht hh hln hgu
 go_enter Tryz.func6, Tryz.ntmps6
 go_wp2_with (first
  | (have tok := S0.out; go_at_call 7; (refine (CGd.out _ S0.out.2).mono ?_; rintro e x1 ⟨rfl, hb⟩; have S1 := Go.Lib.hid (And.intro (S0.out.1.keep hb) (S0.out.2.trans (hb.mono S0.out.2.size))); clear hb tok S0; clear p0 p1 p2 p3 p4 p5 p6 p7 p8 p9 p10; obtain ⟨p0, p1, p2, p3, p4, p5, p6, p7, p8, p9, p10⟩ := S1.out.1.cells)))
 go_ret2
 exact ⟨rfl, S1.out.2⟩
set_option maxRecDepth 100000 in
set_option maxHeartbeats 8000000 in
theorem uenc_long (va : Value) (a : Up) (w : World) (ha : Upds w va a) (hS : Shp w) (hln : lens a.at_.path ≤ 100000) (hl1 : a.gone.length ≤ 1000) (hl2 : a.here.length ≤ 1000) (hsm : Small (encA a.at_)) (hgu : goodU a = true) (hE : 4077 < (encU a).length) : Calls Tryz.prog 6 #[va] w (Tells (.tuple #[.slice none 0 0, .int .i64 6]) w) := by
 have CGd := Go.Lib.hid (fun W (h : Below w.heap.size w W) => ugood_any va a W (ha.keep h) hln)
 obtain ⟨vg, vp, vc, vh, rfl, hg, ht, hh⟩ := ha
 have S0 := Go.Lib.hid (And.intro (BoxU.new w 29 a.at_ vg vp vc vh) ((Below.refl w.heap.size w).alloc (Nat.le_refl _) (.cells #[vg, .int .i64 a.at_.has, .int .i64 a.at_.origin, vp, .int .u32 a.at_.hop, .int .u32 a.at_.med, .int .u32 a.at_.pref, .int .u32 a.at_.aas, .int .u32 a.at_.aid, vc, vh] 29)))
 unfold uV at CGd ⊢
 rw [hgu] at CGd
 obtain ⟨p0, p1, p2, p3, p4, p5, p6, p7, p8, p9, p10⟩ := S0.out.1.cells
 obtain ⟨g1, g2, g3⟩ := goodU_at hgu
 have C1 := Go.Lib.hid (fun W (h : Below w.heap.size w W) => show Calls Tryz.prog 20 #[vg] W (EncOk (encs a.gone) W) from (encode_any vg _ W (hg.keep h) hl1).mono fun e w' h2 => by
  rcases h2 with ⟨h3, -⟩ | ⟨-, h3⟩
  ·rw [g1] at h3; cases h3
  ·exact h3)
 have C3 := Go.Lib.hid (fun W (h : Below w.heap.size w W) => show Calls Tryz.prog 20 #[vh] W (EncOk (encs a.here) W) from (encode_any vh _ W (hh.keep h) hl2).mono fun e w' h2 => by
  rcases h2 with ⟨h3, -⟩ | ⟨-, h3⟩
  ·rw [g2] at h3; cases h3
  ·exact h3)
 have C2 := Go.Lib.hid (fun W (h : Below w.heap.size w W) => show Calls Tryz.prog 21 #[aV a.at_ vp vc] W (EncOk (encA a.at_) W) from enc_good (ht.keep h) (hS.keep h) hln g3)
 unfold EncOk at C1 C2 C3
 unfold aV at C2
 have n1 := encs_len g1
 have n2 : (encA a.at_).length ≤ 100000 := by have h1 := encTo_len g3 8; show (encTo a.at_ 8).length ≤ _; omega
 have n3 := encs_len g2
 have HS := Go.Lib.hid (show Small (encs a.gone) ∧ Small (encA a.at_) ∧ Small (encs a.here) from ⟨encs_small g1, hsm, encs_small g2⟩)
 have hlen := encU_len a
 have EU := Go.Lib.hid (show encU a = big (encs a.gone).length 2 ++ encs a.gone ++ big (encA a.at_).length 2 ++ encA a.at_ ++ encs a.here from rfl)
 generalize encU a = E at EU hlen hE ⊢
 generalize encs a.gone = X at C1 n1 HS EU hlen
 generalize encA a.at_ = Y at C2 n2 HS EU hlen
 generalize encs a.here = Z at C3 n3 HS EU hlen
 obtain ⟨t1, ht1⟩ : ∃ t, t = 4 + X.length := ⟨_, rfl⟩
 obtain ⟨t2, ht2⟩ : ∃ t, t = t1 + Y.length := ⟨_, rfl⟩
 obtain ⟨t3, ht3⟩ : ∃ t, t = t2 + Z.length := ⟨_, rfl⟩
 have q1 : IntKind.i64.wrap (4 + (X.length : Int)) = (t1 : Int) := by rw [IntWalk.i64_in _ (by omega)]; omega
 have q2 : IntKind.i64.wrap ((t1 : Int) + (Y.length : Int)) = (t2 : Int) := by rw [IntWalk.i64_in _ (by omega)]; omega
 have q3 : IntKind.i64.wrap ((t2 : Int) + (Z.length : Int)) = (t3 : Int) := by rw [IntWalk.i64_in _ (by omega)]; omega
 have hE3 : E.length = t3 := by omega
 have y1 : (t3 : Int) > 4077 := by omega
 clear hg ht hh hln hgu g1 g2 g3 n1 n2 n3 hlen hE hE3 ht1 ht2 ht3 hl1 hl2 hsm EU hS
 go_enter Tryz.func6, Tryz.ntmps6
 go_wp2_with (first
  | (have tok := S0.out; go_at_call 7; (refine (CGd.out _ S0.out.2).mono ?_; rintro e x1 ⟨rfl, hb⟩; have S1 := Go.Lib.hid (And.intro (S0.out.1.keep hb) (S0.out.2.trans (hb.mono S0.out.2.size))); clear hb tok S0; clear p0 p1 p2 p3 p4 p5 p6 p7 p8 p9 p10; obtain ⟨p0, p1, p2, p3, p4, p5, p6, p7, p8, p9, p10⟩ := S1.out.1.cells))
  | (have tok := S1.out; go_at_call 20; (refine (C1.out _ S1.out.2).mono ?_; rintro e x2 ⟨A1, c1, rfl, ho, hb⟩; have S2 := Go.Lib.hid (And.intro (S1.out.1.keep hb) (S1.out.2.trans (hb.mono S1.out.2.size))); have U1 := Go.Lib.hid (U8s.of_own ho HS.out.1); clear ho; clear hb tok S1; clear p0 p1 p2 p3 p4 p5 p6 p7 p8 p9 p10; obtain ⟨p0, p1, p2, p3, p4, p5, p6, p7, p8, p9, p10⟩ := S2.out.1.cells))
  | (have tok := S2.out; go_at_call 21; (refine (C2.out _ S2.out.2).mono ?_; rintro e x3 ⟨A2, c2, rfl, ho, hb⟩; have S3 := Go.Lib.hid (And.intro (S2.out.1.keep hb) (S2.out.2.trans (hb.mono S2.out.2.size))); have U2 := Go.Lib.hid (U8s.of_own ho HS.out.2.1); clear ho; replace U1 := Go.Lib.hid (U1.out.keep hb); clear hb tok S2; clear p0 p1 p2 p3 p4 p5 p6 p7 p8 p9 p10; obtain ⟨p0, p1, p2, p3, p4, p5, p6, p7, p8, p9, p10⟩ := S3.out.1.cells))
  | (have tok := S3.out; go_at_call 20; (refine (C3.out _ S3.out.2).mono ?_; rintro e x4 ⟨A3, c3, rfl, ho, hb⟩; have S4 := Go.Lib.hid (And.intro (S3.out.1.keep hb) (S3.out.2.trans (hb.mono S3.out.2.size))); have U3 := Go.Lib.hid (U8s.of_own ho HS.out.2.2); clear ho; replace U1 := Go.Lib.hid (U1.out.keep hb); replace U2 := Go.Lib.hid (U2.out.keep hb); clear hb tok S3; clear p0 p1 p2 p3 p4 p5 p6 p7 p8 p9 p10; obtain ⟨p0, p1, p2, p3, p4, p5, p6, p7, p8, p9, p10⟩ := S4.out.1.cells)))
 go_ret2
 exact ⟨rfl, S4.out.2⟩
set_option maxRecDepth 100000 in
set_option maxHeartbeats 8000000 in
theorem uenc_ok (va : Value) (a : Up) (w : World) (ha : Upds w va a) (hS : Shp w) (hln : lens a.at_.path ≤ 100000) (hl1 : a.gone.length ≤ 1000) (hl2 : a.here.length ≤ 1000) (hsm : Small (encA a.at_)) (hgu : goodU a = true) (hE : (encU a).length ≤ 4077) : Calls Tryz.prog 6 #[va] w (EncOk (encU a) w) := by
 have CGd := Go.Lib.hid (fun W (h : Below w.heap.size w W) => ugood_any va a W (ha.keep h) hln)
 obtain ⟨vg, vp, vc, vh, rfl, hg, ht, hh⟩ := ha
 have S0 := Go.Lib.hid (And.intro (BoxU.new w 29 a.at_ vg vp vc vh) ((Below.refl w.heap.size w).alloc (Nat.le_refl _) (.cells #[vg, .int .i64 a.at_.has, .int .i64 a.at_.origin, vp, .int .u32 a.at_.hop, .int .u32 a.at_.med, .int .u32 a.at_.pref, .int .u32 a.at_.aas, .int .u32 a.at_.aid, vc, vh] 29)))
 unfold uV at CGd ⊢
 rw [hgu] at CGd
 obtain ⟨p0, p1, p2, p3, p4, p5, p6, p7, p8, p9, p10⟩ := S0.out.1.cells
 obtain ⟨g1, g2, g3⟩ := goodU_at hgu
 have C1 := Go.Lib.hid (fun W (h : Below w.heap.size w W) => show Calls Tryz.prog 20 #[vg] W (EncOk (encs a.gone) W) from (encode_any vg _ W (hg.keep h) hl1).mono fun e w' h2 => by
  rcases h2 with ⟨h3, -⟩ | ⟨-, h3⟩
  ·rw [g1] at h3; cases h3
  ·exact h3)
 have C3 := Go.Lib.hid (fun W (h : Below w.heap.size w W) => show Calls Tryz.prog 20 #[vh] W (EncOk (encs a.here) W) from (encode_any vh _ W (hh.keep h) hl2).mono fun e w' h2 => by
  rcases h2 with ⟨h3, -⟩ | ⟨-, h3⟩
  ·rw [g2] at h3; cases h3
  ·exact h3)
 have C2 := Go.Lib.hid (fun W (h : Below w.heap.size w W) => show Calls Tryz.prog 21 #[aV a.at_ vp vc] W (EncOk (encA a.at_) W) from enc_good (ht.keep h) (hS.keep h) hln g3)
 unfold EncOk at C1 C2 C3
 unfold aV at C2
 have n1 := encs_len g1
 have n2 : (encA a.at_).length ≤ 100000 := by have h1 := encTo_len g3 8; show (encTo a.at_ 8).length ≤ _; omega
 have n3 := encs_len g2
 have HS := Go.Lib.hid (show Small (encs a.gone) ∧ Small (encA a.at_) ∧ Small (encs a.here) from ⟨encs_small g1, hsm, encs_small g2⟩)
 have hlen := encU_len a
 have EU := Go.Lib.hid (show encU a = big (encs a.gone).length 2 ++ encs a.gone ++ big (encA a.at_).length 2 ++ encA a.at_ ++ encs a.here from rfl)
 generalize encU a = E at EU hlen hE ⊢
 generalize encs a.gone = X at C1 n1 HS EU hlen
 generalize encA a.at_ = Y at C2 n2 HS EU hlen
 generalize encs a.here = Z at C3 n3 HS EU hlen
 obtain ⟨t1, ht1⟩ : ∃ t, t = 4 + X.length := ⟨_, rfl⟩
 obtain ⟨t2, ht2⟩ : ∃ t, t = t1 + Y.length := ⟨_, rfl⟩
 obtain ⟨t3, ht3⟩ : ∃ t, t = t2 + Z.length := ⟨_, rfl⟩
 have q1 : IntKind.i64.wrap (4 + (X.length : Int)) = (t1 : Int) := by rw [IntWalk.i64_in _ (by omega)]; omega
 have q2 : IntKind.i64.wrap ((t1 : Int) + (Y.length : Int)) = (t2 : Int) := by rw [IntWalk.i64_in _ (by omega)]; omega
 have q3 : IntKind.i64.wrap ((t2 : Int) + (Z.length : Int)) = (t3 : Int) := by rw [IntWalk.i64_in _ (by omega)]; omega
 have hE3 : E.length = t3 := by omega
 have y1 : decide ((t3 : Int) > 4077) = false := decide_eq_false (by omega)
 have EL := Go.Lib.hid (show X.length ≤ 4077 ∧ Y.length ≤ 4077 ∧ Z.length ≤ 4077 ∧ E.length ≤ 4077 from by omega)
 have E1 := Go.Lib.hid (show [] ++ longS X = big X.length 2 ++ X from by rw [longS_is (by omega)]; rfl)
 have E2 := Go.Lib.hid (show big X.length 2 ++ X ++ longS Y = big X.length 2 ++ X ++ big Y.length 2 ++ Y from by rw [longS_is (by omega), List.append_assoc (big X.length 2 ++ X)])
 have L1 := Go.Lib.hid (show (big X.length 2 ++ X).length + Y.length ≤ 800000 from by simp [big_len]; omega)
 have L2 := Go.Lib.hid (show (big X.length 2 ++ X ++ big Y.length 2 ++ Y).length + Z.length ≤ 1000000 from by simp [big_len]; omega)
 obtain ⟨K1, hK1⟩ : ∃ K, K = big X.length 2 ++ X := ⟨_, rfl⟩
 obtain ⟨K2, hK2⟩ : ∃ K, K = K1 ++ big Y.length 2 ++ Y := ⟨_, rfl⟩
 rw [← hK1] at E1 E2 L1 L2 EU
 rw [← hK2] at E2 L2 EU
 clear hg ht hh hln hgu g1 g2 g3 n1 n2 n3 hlen hE hE3 ht1 ht2 ht3 hl1 hl2 hsm hS hK1 hK2
 unfold EncOk
 go_enter Tryz.func6, Tryz.ntmps6
 go_wp2_with (first
  | (have tok := S0.out; go_at_call 7; (refine (CGd.out _ S0.out.2).mono ?_; rintro e x1 ⟨rfl, hb⟩; have S1 := Go.Lib.hid (And.intro (S0.out.1.keep hb) (S0.out.2.trans (hb.mono S0.out.2.size))); clear hb tok S0; clear p0 p1 p2 p3 p4 p5 p6 p7 p8 p9 p10; obtain ⟨p0, p1, p2, p3, p4, p5, p6, p7, p8, p9, p10⟩ := S1.out.1.cells))
  | (have tok := S1.out; go_at_call 20; (refine (C1.out _ S1.out.2).mono ?_; rintro e x2 ⟨A1, c1, rfl, ho, hb⟩; have S2 := Go.Lib.hid (And.intro (S1.out.1.keep hb) (S1.out.2.trans (hb.mono S1.out.2.size))); have U1 := Go.Lib.hid (U8s.of_own ho HS.out.1); clear ho; clear hb tok S1; clear p0 p1 p2 p3 p4 p5 p6 p7 p8 p9 p10; obtain ⟨p0, p1, p2, p3, p4, p5, p6, p7, p8, p9, p10⟩ := S2.out.1.cells))
  | (have tok := S2.out; go_at_call 21; (refine (C2.out _ S2.out.2).mono ?_; rintro e x3 ⟨A2, c2, rfl, ho, hb⟩; have S3 := Go.Lib.hid (And.intro (S2.out.1.keep hb) (S2.out.2.trans (hb.mono S2.out.2.size))); have U2 := Go.Lib.hid (U8s.of_own ho HS.out.2.1); clear ho; replace U1 := Go.Lib.hid (U1.out.keep hb); clear hb tok S2; clear p0 p1 p2 p3 p4 p5 p6 p7 p8 p9 p10; obtain ⟨p0, p1, p2, p3, p4, p5, p6, p7, p8, p9, p10⟩ := S3.out.1.cells))
  | (have tok := S3.out; go_at_call 20; (refine (C3.out _ S3.out.2).mono ?_; rintro e x4 ⟨A3, c3, rfl, ho, hb⟩; have S4 := Go.Lib.hid (And.intro (S3.out.1.keep hb) (S3.out.2.trans (hb.mono S3.out.2.size))); have U3 := Go.Lib.hid (U8s.of_own ho HS.out.2.2); clear ho; replace U1 := Go.Lib.hid (U1.out.keep hb); replace U2 := Go.Lib.hid (U2.out.keep hb); clear hb tok S3; clear p0 p1 p2 p3 p4 p5 p6 p7 p8 p9 p10; obtain ⟨p0, p1, p2, p3, p4, p5, p6, p7, p8, p9, p10⟩ := S4.out.1.cells; have T0 := Go.Lib.hid (ue_start x4)))
  | (have h := T0.out; go_at_call 22; (refine (longO_any _ A1 c1 _ _ X _ _ h.wr (fun W3 ho => U1.out.keep (h.low.trans (ho.below (fun k hk => (h.wr.lt k hk).1) h.low.size))) (by have := EL.out; simp; omega) h.low.size).mono ?_; intro e z hA; obtain ⟨F1, rfl, hS⟩ := h.add hA; have T1 := Go.Lib.hid (hS.is E1.out); clear h hA hS T0))
  | (have h := T1.out; go_at_call 22; (refine (longO_any _ A2 c2 _ _ Y _ _ h.wr (fun W3 ho => U2.out.keep (h.low.trans (ho.below (fun k hk => (h.wr.lt k hk).1) h.low.size))) L1.out h.low.size).mono ?_; intro e z hA; obtain ⟨F2, rfl, hS⟩ := h.add hA; have T2 := Go.Lib.hid (hS.is E2.out); clear h hA hS T1))
  | (have h := T2.out; go_at_call 23; (refine (put_any _ _ _ _ Z _ _ h.wr (U3.out.keep h.low) L2.out h.low.size).mono ?_; intro e z hA; obtain ⟨F3, rfl, hS⟩ := h.add hA; have T3 := Go.Lib.hid (hS.is EU.out.symm); clear h hA hS T2))
  | (have h := T3.out; go_at_call 24; (refine (wbytes_any _ _ _ _ _ h.wr (by have := EL.out; omega)).mono ?_; rintro e z5 ⟨A5, c5, rfl, ho, hb⟩; have T4 := Go.Lib.hid (And.intro (own_base ho h.low.size) (h.low.trans (hb.mono h.low.size))); clear h ho hb T3)))
 go_ret2
 exact ⟨A5, c5, rfl, own_base T4.out.1 S4.out.2.size, S4.out.2.trans (T4.out.2.mono S4.out.2.size)⟩
end Go.Proofs.YtlhdjdnflpilbaaGreatDoor.Upd
namespace Go.Proofs.YtlhdjdnflpilbaaGreatDoor.Upd
open Go.RowKit Mem Segm Oct Att Seg PR
def EncW (q : Up) (EB : List Nat) (er : Int) : Prop := (goodU q = false ∧ EB = [] ∧ er = 1) ∨ (goodU q = true ∧ 4077 < (encU q).length ∧ EB = [] ∧ er = 6) ∨ (goodU q = true ∧ (encU q).length ≤ 4077 ∧ EB = encU q ∧ er = 0)
theorem uenc_all (q : Up) (hln : lens q.at_.path ≤ 100000) (hl1 : q.gone.length ≤ 1000) (hl2 : q.here.length ≤ 1000) (hsm : goodU q = true → Small (encU q) ∧ Small (encA q.at_)) : ∃ EB er, EncW q EB er ∧ ∀ v W, Upds W v q → Shp W → Calls Tryz.prog 6 #[v] W (fun e w' => ∃ A c, e = .returned (.tuple #[.slice A EB.length c, .int .i64 er]) ∧ U8s w' (.slice A EB.length c) EB ∧ Below W.heap.size W w') := by
 cases hg : goodU q with
 | false => exact ⟨[], 1, .inl ⟨hg, rfl, rfl⟩, fun v W h hS => (uenc_bad v q W h hln hg).mono fun e w' ⟨h1, h2⟩ => ⟨none, 0, h1, U8s.nil _, h2⟩⟩
 | true =>
  obtain ⟨s1, s2⟩ := hsm hg
  by_cases hE : (encU q).length ≤ 4077
  ·exact ⟨encU q, 0, .inr (.inr ⟨hg, hE, rfl, rfl⟩), fun v W h hS => (uenc_ok v q W h hS hln hl1 hl2 s2 hg hE).mono fun e w' ⟨A, c, h1, h2, h3⟩ => ⟨A, c, h1, U8s.of_own h2 s1, h3⟩⟩
  ·exact ⟨[], 6, .inr (.inl ⟨hg, by omega, rfl, rfl⟩), fun v W h hS => (uenc_long v q W h hS hln hl1 hl2 s2 hg (by omega)).mono fun e w' ⟨h1, h2⟩ => ⟨none, 0, h1, U8s.nil _, h2⟩⟩
end Go.Proofs.YtlhdjdnflpilbaaGreatDoor.Upd
namespace Go.Proofs.YtlhdjdnflpilbaaGreatDoor.Upd
open Go.RowKit Mem Segm Oct Att Seg PR
def u1 : Up := ⟨[⟨167772160, 8⟩], zeroA, []⟩
theorem good_u1 : goodU u1 = true := by decide +kernel
theorem enc_u1 : encU u1 = [0, 2, 8, 10, 0, 0] := by decide +kernel
theorem good_u0 : goodU zeroU = true := by decide +kernel
theorem enc_u0 : encU zeroU = [0, 0, 0, 0] := by decide +kernel
theorem size_u0 : sizeU zeroU = 4 := by unfold sizeU; rw [good_u0, enc_u0]; rfl
theorem lit_ten (w : World) : Pfxs (w.alloc (.cells #[.int .u32 167772160, .int .i64 8] 63)) (.slice (some ⟨w.heap.size, 0, none⟩) 1 1) [⟨167772160, 8⟩] :=
 ⟨own_one2 _ _ _, fun q hq => by simp only [List.mem_singleton] at hq; subst hq; exact ⟨by decide, by decide⟩⟩
set_option maxRecDepth 100000 in
set_option maxHeartbeats 2000000 in
theorem lives10_any (w : World) (hS : Shp w) : Calls Tryz.prog 12 #[] w (Tells (.bool true) w) := by
 have hb0 : Below w.heap.size w (w.alloc (.cells #[.int .u32 167772160, .int .i64 8] 63)) := (Below.refl _ w).alloc (Nat.le_refl _) _
 have CE := Go.Lib.hid (show Calls Tryz.prog 6 #[.agg #[.slice (some ⟨w.heap.size, 0, none⟩) 1 1, .int .i64 0, .int .i64 0, .slice none 0 0, .int .u32 0, .int .u32 0, .int .u32 0, .int .u32 0, .int .u32 0, .slice none 0 0, .slice none 0 0]] (w.alloc (.cells #[.int .u32 167772160, .int .i64 8] 63)) (fun e w' => ∃ A c, e = .returned (.tuple #[.slice A 6 c, .int .i64 0]) ∧ U8s w' (.slice A 6 c) [0, 2, 8, 10, 0, 0] ∧ Below w.heap.size w w') from
  (uenc_ok _ u1 _ ⟨_, _, _, _, rfl, lit_ten w, attrs_zero _, Pfxs.nil _⟩ (hS.keep hb0) (by decide) (by decide) (by decide) (by unfold Small; decide +kernel) good_u1 (by rw [enc_u1]; decide)).mono fun e w' h => by
   obtain ⟨A, c, h1, h2, h3⟩ := h
   rw [enc_u1] at h1 h2
   exact ⟨A, c, h1, U8s.of_own h2 (by unfold Small; decide), hb0.trans (h3.mono hb0.size)⟩)
 have CS := Go.Lib.hid (fun W (h : Below w.heap.size w W) => show Calls Tryz.prog 11 #[.agg #[.slice none 0 0, .int .i64 0, .int .i64 0, .slice none 0 0, .int .u32 0, .int .u32 0, .int .u32 0, .int .u32 0, .int .u32 0, .slice none 0 0, .slice none 0 0]] W (Tells (.int .i64 4) W) from by
  have h2 := usize_any _ zeroU W (upds_zero W) (hS.keep h) (by decide) (by decide) (by decide)
  rw [size_u0] at h2
  exact h2)
 have hs : ((txt [0, 2, 8, 10, 0, 0]).toList == ([0, 2, 8, 10, 0, 0] : List UInt8)) = true := by rw [txt_list]; decide
 clear hS hb0
 go_enter Tryz.func12, Tryz.ntmps12
 go_wp2_with (first
  | (go_at_call 6; (refine (CE.out).mono ?_; rintro e w1 ⟨A, c, rfl, hU, hb⟩; have B1 := Go.Lib.hid hb; have t1 := text8 hU; clear hU hb))
  | (go_at_call 11; (refine (CS.out _ B1.out).mono ?_; rintro e w2 ⟨rfl, hb⟩; have B2 := Go.Lib.hid (B1.out.trans (hb.mono B1.out.size)); clear hb)))
 go_ret
 exact ⟨rfl, B2.out⟩
end Go.Proofs.YtlhdjdnflpilbaaGreatDoor.Upd
namespace Go.Proofs.YtlhdjdnflpilbaaGreatDoor.Upd
open Go.RowKit Mem Oct Att PR
structure Grw (w0 : World) (v : Value) (n : Nat) (l : List Nat) (W : World) : Prop where
 own : W.ownsRow w0.heap.size 5 1 v n (cells8 l)
 low : Below w0.heap.size w0 W
section
variable {w0 W W2 : World} {v v2 : Value} {l l2 : List Nat} {n n2 : Nat}
theorem Grw.below (h : Grw w0 v n l W) (hb : Below W.heap.size W W2) : Grw w0 v n l W2 := ⟨own_keep h.own hb, h.low.trans (hb.mono h.low.size)⟩
theorem Grw.grow (h : Grw w0 v n l W) (hg : W.grownBy W2 v.ownBlock) (ho : W2.ownsRow w0.heap.size 5 1 v2 n2 (cells8 l2)) : Grw w0 v2 n2 l2 W2 :=
 ⟨ho, h.low.trans (below_of_grown h.own hg h.low.size)⟩
end
set_option maxRecDepth 100000 in
set_option maxHeartbeats 8000000 in
theorem rencode_any (va : Value) (a : Up) (w : World) (ha : Upds w va a) (hgu : goodU a = true) (hl1 : a.gone.length ≤ 1000) (hl2 : a.here.length ≤ 1000) (hsm : Small (encA a.at_)) : Calls Tryz.prog 13 #[va] w (Gives8 (encU a) w) := by
 obtain ⟨i0, E0⟩ := elem8
 obtain ⟨g1, g2, g3⟩ := goodU_at hgu
 obtain ⟨vg, vp, vc, vh, rfl, hg, ht, hh⟩ := ha
 obtain ⟨ag, a, ah⟩ := a
 dsimp only at hg ht hh hl1 hl2 g1 g2 g3 hsm
 have C1 := Go.Lib.hid (fun W (h : Below w.heap.size w W) => refEncode_any vg _ W (hg.keep h) g1 hl1)
 have C2 := Go.Lib.hid (fun W (h : Below w.heap.size w W) => refEncode8 _ _ W (ht.keep h) g3)
 have C3 := Go.Lib.hid (fun W (h : Below w.heap.size w W) => refEncode_any vh _ W (hh.keep h) g2 hl2)
 unfold aV at C2
 have n1 := encs_len g1
 have n2 : (encA a).length ≤ 100000 := by have h1 := encTo_len g3 8; show (encTo a 8).length ≤ _; omega
 have n3 := encs_len g2
 have HS := Go.Lib.hid (show Small (encs ag) ∧ Small (encA a) from ⟨encs_small g1, hsm⟩)
 have EU := Go.Lib.hid (show big (encs ag).length 2 ++ encs ag ++ big (encA a).length 2 ++ encA a ++ encs ah = encU ⟨ag, a, ah⟩ from by unfold encU; rfl)
 generalize encU ⟨ag, a, ah⟩ = E at EU ⊢
 generalize encs ag = X at C1 n1 HS EU
 generalize encA a = Y at C2 n2 HS EU
 generalize encs ah = Z at C3 n3 EU
 have CB := Go.Lib.hid (fun (n : Nat) (hn : n ≤ 100000) W => show Calls Tryz.prog 39 #[.int .u64 n, .int .i64 2] W (fun e w' => ∃ A c, e = .returned (.slice A 2 c) ∧ w'.ownsRow W.heap.size 5 1 (.slice A 2 c) 2 (cells8 (big n 2)) ∧ Below W.heap.size W w') from (big_any n 2 W (by omega) (by omega)).mono fun e w' h => by
  obtain ⟨A, c, h1, h2, h3⟩ := h
  rw [big_len] at h1 h2
  exact ⟨A, c, h1, h2, h3⟩)
 have hx5 : X.length ≤ 5000 := by omega
 have hz5 : Z.length ≤ 5000 := by omega
 have wx : IntKind.u64.wrap (X.length : Int) = (X.length : Int) := by rw [IntKind.wrap_u64]; omega
 have wy : IntKind.u64.wrap (Y.length : Int) = (Y.length : Int) := by rw [IntKind.wrap_u64]; omega
 have CBX := Go.Lib.hid (CB.out X.length (by omega))
 have CBY := Go.Lib.hid (CB.out Y.length n2)
 have S0 := Go.Lib.hid (And.intro (BoxU.new w 29 a vg vp vc vh) ((Below.refl w.heap.size w).alloc (Nat.le_refl _) (.cells #[vg, .int .i64 a.has, .int .i64 a.origin, vp, .int .u32 a.hop, .int .u32 a.med, .int .u32 a.pref, .int .u32 a.aas, .int .u32 a.aid, vc, vh] 29)))
 obtain ⟨p0, p1, p2, p3, p4, p5, p6, p7, p8, p9, p10⟩ := S0.out.1.cells
 unfold uV Gives8
 clear hg ht hh g1 g2 g3 hgu n1 n3 hl1 hl2 CB hsm
 go_enter Tryz.func13, Tryz.ntmps13
 go_wp2
 have S1 := Go.Lib.hid (And.intro (S0.out.1.keep (Below.refl _ _).drew) (S0.out.2.trans ((Below.refl _ _).drew.mono S0.out.2.size)))
 clear p0 p1 p2 p3 p4 p5 p6 p7 p8 p9 p10
 obtain ⟨p0, p1, p2, p3, p4, p5, p6, p7, p8, p9, p10⟩ := S1.out.1.cells
 go_region_held3 (fun w' => w'.cell? ⟨w.heap.size, 0, none⟩ = some vg ∧ w'.cell? ⟨w.heap.size, 1, none⟩ = some (.int .i64 a.has) ∧ w'.cell? ⟨w.heap.size, 2, none⟩ = some (.int .i64 a.origin) ∧ w'.cell? ⟨w.heap.size, 3, none⟩ = some vp ∧ w'.cell? ⟨w.heap.size, 4, none⟩ = some (.int .u32 a.hop) ∧ w'.cell? ⟨w.heap.size, 5, none⟩ = some (.int .u32 a.med) ∧ w'.cell? ⟨w.heap.size, 6, none⟩ = some (.int .u32 a.pref) ∧ w'.cell? ⟨w.heap.size, 7, none⟩ = some (.int .u32 a.aas) ∧ w'.cell? ⟨w.heap.size, 8, none⟩ = some (.int .u32 a.aid) ∧ w'.cell? ⟨w.heap.size, 9, none⟩ = some vc ∧ w'.cell? ⟨w.heap.size, 10, none⟩ = some vh) (exact ⟨by assumption, by assumption, by assumption, by assumption, by assumption, by assumption, by assumption, by assumption, by assumption, by assumption, by assumption⟩) (first
  | (have tok := S1.out; go_at_call 37; (refine (C1.out _ tok.2).mono ?_; rintro e z ⟨A1, k1, rfl, ho, hb⟩; have U1 := Go.Lib.hid (U8s.of_own ho HS.out.1); have S2 := Go.Lib.hid (And.intro (tok.1.keep hb) (tok.2.trans (hb.mono tok.2.size))); clear ho hb tok S1; clear p0 p1 p2 p3 p4 p5 p6 p7 p8 p9 p10; obtain ⟨p0, p1, p2, p3, p4, p5, p6, p7, p8, p9, p10⟩ := S2.out.1.cells))
  | (have tok := S2.out; go_at_call 38; (refine (C2.out _ tok.2).mono ?_; rintro e z1 ⟨A2, k2, rfl, ho, hb⟩; have U2 := Go.Lib.hid (U8s.of_own ho HS.out.2); have V1 := Go.Lib.hid (U1.out.keep hb); have S3 := Go.Lib.hid (And.intro (tok.1.keep hb) (tok.2.trans (hb.mono tok.2.size))); clear ho hb tok S2 U1; clear p0 p1 p2 p3 p4 p5 p6 p7 p8 p9 p10; obtain ⟨p0, p1, p2, p3, p4, p5, p6, p7, p8, p9, p10⟩ := S3.out.1.cells)))
 clear p0 p1 p2 p3 p4 p5 p6 p7 p8 p9 p10
 have S3b := Go.Lib.hid S3.out.2.size
 have HK := Go.Lib.hid (fun (W : World) (h : Below z1.heap.size z1 W) => And.intro (V1.out.keep h).1 (And.intro (U2.out.keep h).1 (And.intro (S3.out.1.keep h) (S3.out.2.trans (h.mono S3.out.2.size)))))
 go_wp2_with (first
  | (have tok := S3.out; go_at_call 39; (refine (CBX.out _).mono ?_; rintro e z ⟨A3, k3, rfl, ho, hb⟩; have T1 := Go.Lib.hid (Grw.mk (l := big X.length 2) ho hb); clear ho hb tok S3))
  | (have h := T1.out; at_builtin; (refine wpList_append_row rfl (.tmp 15) (.tmp 16) rfl E0 z1.heap.size _ 2 _ rfl h.own _ X.length _ rfl ((HK.out _ h.low).1) (ones8 _) (by unfold maxLen; omega) (by omega) h.low.size (2 + X.length) rfl ?_; intro A4 k4 z hown hgr hat hb1; rw [← cells8_append] at hown; have T2 := Go.Lib.hid (h.grow (v2 := .slice A4 (2 + X.length) k4) (n2 := (2 + X.length)) hgr hown); clear hown hgr hat hb1 h T1))
  | (have h := T2.out; go_at_call 39; (refine (CBY.out _).mono ?_; rintro e z ⟨A5, k5, rfl, ho, hb⟩; have R5 := Go.Lib.hid (Row.of_own ho); have T3 := Go.Lib.hid (h.below hb); clear ho hb h T2))
  | (have h := T3.out; at_builtin; (refine wpList_append_row rfl (.tmp 18) (.tmp 22) rfl E0 z1.heap.size _ (2 + X.length) _ rfl h.own _ 2 _ rfl (R5.out) (ones8 _) (by unfold maxLen; omega) (by omega) h.low.size (2 + X.length + 2) rfl ?_; intro A6 k6 z hown hgr hat hb1; rw [← cells8_append] at hown; have T4 := Go.Lib.hid (h.grow (v2 := .slice A6 (2 + X.length + 2) k6) (n2 := (2 + X.length + 2)) hgr hown); clear hown hgr hat hb1 h T3))
  | (have h := T4.out; at_builtin; (refine wpList_append_row rfl (.tmp 23) (.tmp 24) rfl E0 z1.heap.size _ (2 + X.length + 2) _ rfl h.own _ Y.length _ rfl ((HK.out _ h.low).2.1) (ones8 _) (by unfold maxLen; omega) (by omega) h.low.size (2 + X.length + 2 + Y.length) rfl ?_; intro A7 k7 z hown hgr hat hb1; rw [← cells8_append] at hown; clear R5; have T5 := Go.Lib.hid (h.grow (v2 := .slice A7 (2 + X.length + 2 + Y.length) k7) (n2 := (2 + X.length + 2 + Y.length)) hgr hown); clear hown hgr hat hb1 h T4; obtain ⟨p0, p1, p2, p3, p4, p5, p6, p7, p8, p9, p10⟩ := (HK.out _ T5.out.low).2.2.1.cells))
  | (have h := T5.out; go_at_call 37; (refine (C3.out _ (HK.out _ h.low).2.2.2).mono ?_; rintro e z ⟨A8, k8, rfl, ho, hb⟩; have R8 := Go.Lib.hid (Row.of_own ho); have T6 := Go.Lib.hid (h.below hb); clear ho hb h T5))
  | (have h := T6.out; at_builtin; (refine wpList_append_row rfl (.tmp 26) (.tmp 29) rfl E0 z1.heap.size _ (2 + X.length + 2 + Y.length) _ rfl h.own _ Z.length _ rfl (R8.out) (ones8 _) (by unfold maxLen; omega) (by omega) h.low.size (2 + X.length + 2 + Y.length + Z.length) rfl ?_; intro A9 k9 z hown hgr hat hb1; rw [← cells8_append] at hown; rw [EU.out] at hown; have T7 := Go.Lib.hid (h.grow (v2 := .slice A9 (2 + X.length + 2 + Y.length + Z.length) k9) (n2 := (2 + X.length + 2 + Y.length + Z.length)) hgr hown); clear hown hgr hat hb1 h T6)))
 go_ret
 have hn : X.length + Y.length + Z.length + 4 = E.length := by rw [← EU.out]; simp [big_len]; omega
 have e : 2 + X.length + 2 + Y.length + Z.length = E.length := by omega
 rw [e] at T7
 exact ⟨A9, k9, by rw [← e]; rfl, own_base T7.out.own (S3b.out), (HK.out _ T7.out.low).2.2.2⟩
end Go.Proofs.YtlhdjdnflpilbaaGreatDoor.Upd
