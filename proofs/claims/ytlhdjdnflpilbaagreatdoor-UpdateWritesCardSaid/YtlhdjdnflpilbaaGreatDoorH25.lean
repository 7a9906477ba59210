/- The program's Good of attributes is the document's. The program's Encode of attributes, and Size. The program's Size of attributes. The reference's value of an attribute: the aggregator. The reference's Encode of attributes. -/
import Derived.Test.YtlhdjdnflpilbaaGreatDoorH24
import Derived.Test.YtlhdjdnflpilbaaGreatDoorH18
import Derived.Test.YtlhdjdnflpilbaaGreatDoorH21
import Derived.Test.YtlhdjdnflpilbaaGreatDoorH22
import Derived.Test.YtlhdjdnflpilbaaGreatDoorH03
import Derived.Test.YtlhdjdnflpilbaaGreatDoorH06
import Derived.Test.YtlhdjdnflpilbaaGreatDoorH13
import Derived.Deep.RegionHeld3
import Derived.Test.YtlhdjdnflpilbaaGreatDoorH16
namespace Go.Proofs.YtlhdjdnflpilbaaGreatDoor.Att
open Go.RowKit Mem Segm Rise
theorem pres_good {a : At} (h1 : goodP a.path = true) (h2 : rising a.comms) : normA a = presA a := by
 unfold normA presA
 rw [good_norm h1, (setOf_iff _).2 h2]
theorem norm_pres {a : At} (h : normA a = a) : presA a = a ∧ rising a.comms := by
 obtain ⟨h0, o, p, hp, md, pr, ag, ai, cm⟩ := a
 unfold normA at h
 injection h with e0 e1 e2 e3 e4 e5 e6 e7 e8
 dsimp only at e0 e1 e2 e3 e4 e5 e6 e7 e8
 refine ⟨?_, ?_⟩
 ·unfold presA
  dsimp only
  rw [e0, e1, e3, e4, e5, e6, e7]
  congr 1
  ·cases hb : hasB h0 2 with
   | true => rw [if_pos rfl]
   | false => rw [hb] at e2; simpa using e2
  ·cases hb : hasB h0 8 with
   | true => rw [if_pos rfl]
   | false => rw [hb] at e8; simpa using e8
 ·dsimp only
  cases hb : hasB h0 8 with
  | true => rw [hb, if_pos rfl] at e8; exact (setOf_iff _).1 e8
  | false =>
   rw [hb] at e8
   have : cm = [] := by simpa using e8.symm
   rw [this]; exact rising_nil
theorem goodA_is (a : At) : goodA a = (sameA a (presA a) && decide (0 ≤ a.origin) && decide (a.origin ≤ 2) && goodP a.path && decide (lens a.path ≤ 2000) && (!hasB a.has 3 || hopB a.hop) && decide (rising a.comms) && decide (a.comms.length ≤ 255)) := by
 rw [Bool.eq_iff_iff]
 unfold goodA waysP
 simp only [Bool.and_eq_true, decide_eq_true_eq, sameA_iff]
 constructor
 ·rintro ⟨⟨⟨⟨⟨h1, h2⟩, h3⟩, h4, h5⟩, h6⟩, h7⟩
  obtain ⟨k1, k2⟩ := norm_pres h1
  exact ⟨⟨⟨⟨⟨⟨⟨k1.symm, h2⟩, h3⟩, h4⟩, h5⟩, h6⟩, k2⟩, h7⟩
 ·rintro ⟨⟨⟨⟨⟨⟨⟨h1, h2⟩, h3⟩, h4⟩, h5⟩, h6⟩, h7⟩, h8⟩
  exact ⟨⟨⟨⟨⟨(pres_good h4 h7).trans h1.symm, h2⟩, h3⟩, h4, h5⟩, h6⟩, h8⟩
theorem good_any (v : Value) (a : At) (w : World) (hv : Attrs w v a) (hln : lens a.path ≤ 100000) : Calls Tryz.prog 27 #[v] w (Tells (.bool (goodA a)) w) := by
 rw [goodA_is]
 have hv0 := hv
 obtain ⟨vN, hN, hPN⟩ := present_exact v a w hv
 obtain ⟨hok, vp, vc, rfl, hP, hC⟩ := hv
 have hhop : a.hop < 4294967296 := hok.2.2.1
 obtain ⟨Ac, cc, rfl, hlc, hcc, -, -⟩ := hC.open_
 have CN := Go.Lib.hid hPN
 have CM := Go.Lib.hid (fun W (hb : Below w.heap.size w W) => sameA_any _ vN a (presA a) W (hv0.keep hb) (hN.keep hb))
 have CG := Go.Lib.hid (fun W (hb : Below w.heap.size w W) => pgood_any vp a.path W (hP.keep hb))
 have CU := Go.Lib.hid (fun W (hb : Below w.heap.size w W) => numbers_any vp a.path W (hP.keep hb) hln)
 have CH := Go.Lib.hid (fun W => show Calls Tryz.prog 58 #[.agg #[.int .i64 a.has, .int .i64 a.origin, vp, .int .u32 (a.hop : Nat), .int .u32 (a.med : Nat), .int .u32 (a.pref : Nat), .int .u32 (a.aas : Nat), .int .u32 (a.aid : Nat), .slice Ac a.comms.length cc], .int .i64 3] W (Tells (.bool (hasB a.has 3)) W) from has_any a.has 3 _ _ _ _ _ _ _ _ W (by decide))
 have CP := Go.Lib.hid (fun W => hop_any a.hop W hhop)
 have CI := Go.Lib.hid (fun W (hb : Below w.heap.size w W) => Nums.is_any _ a.comms W (hC.keep hb))
 have hd : decide ((a.comms.length : Int) ≤ 255) = decide (a.comms.length ≤ 255) := by
  by_cases h : a.comms.length ≤ 255
  ·rw [decide_eq_true h, decide_eq_true (by omega)]
  ·rw [decide_eq_false h, decide_eq_false (by omega)]
 cases h1 : sameA a (presA a) with
 | false => rw [h1] at CM; exact pgood_n _ _ _ _ _ _ _ _ _ _ _ _ w CN CM
 | true =>
  rw [h1] at CM
  by_cases h2 : 0 ≤ a.origin
  case neg => rw [decide_eq_false h2]; exact pgood_o _ _ _ _ _ _ _ _ _ _ _ _ w CN CM (decide_eq_false h2)
  rw [decide_eq_true h2]
  by_cases h3 : a.origin ≤ 2
  case neg => rw [decide_eq_false h3]; exact pgood_p _ _ _ _ _ _ _ _ _ _ _ _ w CN CM h2 (decide_eq_false h3)
  rw [decide_eq_true h3]
  cases h4 : goodP a.path with
  | false => rw [h4] at CG; exact pgood_w _ _ _ _ _ _ _ _ _ _ _ _ w CN CM CG h2 h3
  | true =>
   rw [h4] at CG
   by_cases h5 : lens a.path ≤ 2000
   case neg => rw [decide_eq_false h5]; exact pgood_u _ _ _ _ _ _ _ _ _ _ _ _ w _ CN CM CG CU h2 h3 (decide_eq_false (by omega))
   rw [decide_eq_true h5]
   have z3 : ((lens a.path : Nat) : Int) ≤ 2000 := by omega
   cases h6 : hasB a.has 3 with
   | false =>
    rw [h6] at CH
    cases h7 : decide (rising a.comms) with
    | false => rw [h7] at CI; exact pgood_h _ _ _ _ _ _ _ _ _ _ _ _ w _ CN CM CG CU CH CI h2 h3 z3
    | true => rw [h7] at CI; exact pgood_i _ _ _ _ _ _ _ _ _ _ _ _ w _ _ CN CM CG CU CH CI h2 h3 z3 hd
   | true =>
    rw [h6] at CH
    cases h8 : hopB a.hop with
    | false => rw [h8] at CP; exact pgood_x _ _ _ _ _ _ _ _ _ _ _ _ w _ CN CM CG CU CH CP h2 h3 z3
    | true =>
     rw [h8] at CP
     cases h7 : decide (rising a.comms) with
     | false => rw [h7] at CI; exact pgood_y _ _ _ _ _ _ _ _ _ _ _ _ w _ CN CM CG CU CH CP CI h2 h3 z3
     | true => rw [h7] at CI; exact pgood_z _ _ _ _ _ _ _ _ _ _ _ _ w _ _ CN CM CG CU CH CP CI h2 h3 z3 hd
end Go.Proofs.YtlhdjdnflpilbaaGreatDoor.Att
namespace Go.Proofs.YtlhdjdnflpilbaaGreatDoor.Att
open Go.RowKit Mem Segm Oct
theorem valB_len {a : At} (hg : goodA a = true) (k : Nat) : (valB a k).length ≤ 8200 := by
 have hg2 := hg
 unfold goodA waysP goodP at hg2
 simp only [Bool.and_eq_true, decide_eq_true_eq] at hg2
 obtain ⟨⟨⟨_, ⟨⟨h1, _⟩, h2⟩⟩, _⟩, h3⟩ := hg2
 unfold valB
 repeat' split
 all_goals first
  | (rw [pathB_len]; omega)
  | (rw [fours_len]; omega)
  | (simp only [List.length_append, big_len, List.length_cons, List.length_nil]; omega)
theorem valB_small (a : At) (k : Nat) : Small (valB a k) := by
 unfold valB
 repeat' split
 all_goals first
  | exact pathB_small _
  | exact fours_small _
  | exact big_small _ _
  | exact (big_small _ _).append (big_small _ _)
  | exact small_nil
  | (intro n hn; rw [List.mem_singleton.1 hn]; exact lo8_lt _)
theorem flagN_is3 {k : Nat} (h1 : 1 ≤ k) (h8 : k ≤ 8) : flagN k = 64 ∨ flagN k = 128 ∨ flagN k = 192 := by
 unfold flagN
 split
 ·exact .inl rfl
 ·split
  ·exact .inr (.inl rfl)
  ·rw [if_pos (by omega)]; exact .inr (.inr rfl)
theorem attrB_len {a : At} (hg : goodA a = true) (k : Nat) : (attrB a k).length ≤ 8300 := by
 have h := valB_len hg k
 unfold attrB itemB
 split <;> simp only [List.length_cons, List.length_append, big_len] <;> omega
theorem encTo_len {a : At} (hg : goodA a = true) : ∀ k, (encTo a k).length ≤ 8300 * k
 | 0 => Nat.le_refl _
 | k + 1 => by
  have ih := encTo_len hg k
  have h2 := attrB_len hg (k + 1)
  unfold encTo
  rw [List.length_append]
  split
  ·omega
  ·simp only [List.length_nil]; omega
def EncA (a : At) (w : World) (e : Ending) (w' : World) : Prop :=
 (goodA a = false ∧ e = .returned (.tuple #[.slice none 0 0, .int .i64 1]) ∧ Below w.heap.size w w') ∨
 (goodA a = true ∧ ∃ A c, e = .returned (.tuple #[.slice A (encA a).length c, .int .i64 0]) ∧ w'.ownsRow w.heap.size 5 1 (.slice A (encA a).length c) (encA a).length (cells8 (encA a)) ∧ Below w.heap.size w w')
section
variable {w0 W W2 : World} {P : Value} {B : Nat} {x0 x1 x2 x3 x4 x5 x6 x7 x8 : Value} {l : List Nat} {F : Nat → Prop}
theorem ValSt.box (h : ValSt w0 P B x0 x1 x2 x3 x4 x5 x6 x7 x8 l F W) (x y z : Value) : ValSt w0 P B x0 x1 x2 x3 x4 x5 x6 x7 x8 l F (W.alloc (.cells #[x, y, z] 90)) ∧ (Box3 (W.alloc (.cells #[x, y, z] 90)) W.heap.size 90 x y z ∧ ¬ F W.heap.size ∧ B ≠ W.heap.size ∧ w0.heap.size ≤ W.heap.size) :=
 ⟨h.below ((Below.refl _ _).alloc (Nat.le_refl _) _), Box3.new _ _ _ _ _, fun hf => by have := (h.wr.lt _ hf).2; omega, by have := h.b9.lt; omega, h.low.size⟩
theorem ValSt.boxn (h : ValSt w0 P B x0 x1 x2 x3 x4 x5 x6 x7 x8 l F W) {n : Nat} (hn : W.heap.size = n) (x y z : Value) : ValSt w0 P B x0 x1 x2 x3 x4 x5 x6 x7 x8 l F (W.alloc (.cells #[x, y, z] 90)) ∧ (Box3 (W.alloc (.cells #[x, y, z] 90)) n 90 x y z ∧ ¬ F n ∧ B ≠ n ∧ w0.heap.size ≤ n) := by
 subst hn
 exact h.box x y z
theorem ValSt.laid (h : ValSt w0 P B x0 x1 x2 x3 x4 x5 x6 x7 x8 l F W) {C : Nat} (x y z : Value) (hF : ¬ F C) (hB : B ≠ C) (hl : w0.heap.size ≤ C) : ValSt w0 P B x0 x1 x2 x3 x4 x5 x6 x7 x8 l F (three W C x y z) := by
 have ho := three_off W C x y z
 exact ⟨h.wr.keep (fun k hk => ho.1 k (fun e => hF (e ▸ hk))), h.nb, ⟨(ho.1 B hB).trans h.b9.blk⟩, three_low h.low C hl _ _ _⟩
end
theorem ValSt.set1 {w0 W : World} {P : Value} {B C i : Nat} {x0 x1 x2 x3 x4 x5 x6 x7 x8 : Value} {l : List Nat} {F : Nat → Prop} (h : ValSt w0 P B x0 x1 x2 x3 x4 x5 x6 x7 x8 l F W) (v : Value) (hF : ¬ F C) (hB : B ≠ C) (hl : w0.heap.size ≤ C) : ValSt w0 P B x0 x1 x2 x3 x4 x5 x6 x7 x8 l F (W.setCell ⟨C, i, none⟩ v) :=
 ⟨h.wr.keep (fun k hk => Go.RowKit.Below.heap_setCell _ _ _ _ (fun e => hF (by have e2 : k = C := e; exact e2 ▸ hk))), h.nb, box_far h.b9 hB, h.low.setCell (p := ⟨C, i, none⟩) hl v⟩
def Beside (W : World) (F : Nat → Prop) (v : Value) (m : List Nat) : Prop := U8s W v m ∧ Lies W.heap.size F v
theorem Beside.keep {W W' : World} {F : Nat → Prop} {v : Value} {m : List Nat} (h : Beside W F v m) (hb : Below W.heap.size W W') : Beside W' F v m :=
 ⟨h.1.keep hb, fun g hg => ⟨Nat.lt_of_lt_of_le (h.2 g hg).1 hb.size, (h.2 g hg).2⟩⟩
theorem Beside.only {W : World} {F : Nat → Prop} {v : Value} {m : List Nat} (h : Beside W F v m) : ∀ W', Only F W W' → U8s W' v m := fun _ ho => h.1.part (fun g hg => ho.block g (h.2 g hg).1 (h.2 g hg).2) ho.size
theorem Beside.laid {W : World} {F : Nat → Prop} {v : Value} {m : List Nat} {C : Nat} (h : Beside W F v m) (x y z : Value) (hC : ∀ g, v.ownBlock = some g → g ≠ C) : Beside (three W C x y z) F v m := by
 have ho := three_off W C x y z
 exact ⟨h.1.part (fun g hg => ho.1 g (hC g hg)) ho.2, fun g hg => ⟨Nat.lt_of_lt_of_le (h.2 g hg).1 ho.2, (h.2 g hg).2⟩⟩
theorem Beside.set1 {W : World} {F : Nat → Prop} {v : Value} {m : List Nat} {C i : Nat} (h : Beside W F v m) (x : Value) (hC : ∀ g, v.ownBlock = some g → g ≠ C) : Beside (W.setCell ⟨C, i, none⟩ x) F v m :=
 ⟨h.1.part (fun g hg => Go.RowKit.Below.heap_setCell _ _ _ _ (hC g hg)) (by simp), fun g hg => ⟨Nat.lt_of_lt_of_le (h.2 g hg).1 (by simp), (h.2 g hg).2⟩⟩
set_option maxRecDepth 100000 in
set_option maxHeartbeats 8000000 in
theorem encode_any (v : Value) (a : At) (w : World) (hv : Attrs w v a) (hS : Shp w) (hln : lens a.path ≤ 100000) : Calls Tryz.prog 21 #[v] w (EncA a w) := by
 have HV := Go.Lib.hid hv
 obtain ⟨_, vp, vc, rfl, -, -⟩ := hv
 have HSH := Go.Lib.hid hS
 have H1 := Go.Lib.hid (Box9.new w 27 (.int .i64 a.has) (.int .i64 a.origin) (vp) (.int .u32 (a.hop : Nat)) (.int .u32 (a.med : Nat)) (.int .u32 (a.pref : Nat)) (.int .u32 (a.aas : Nat)) (.int .u32 (a.aid : Nat)) (vc))
 have B1 := Go.Lib.hid (show Below w.heap.size w (w.alloc (.cells #[.int .i64 a.has, .int .i64 a.origin, vp, .int .u32 (a.hop : Nat), .int .u32 (a.med : Nat), .int .u32 (a.pref : Nat), .int .u32 (a.aas : Nat), .int .u32 (a.aid : Nat), vc] 27)) from (Below.refl _ w).alloc (Nat.le_refl _) _)
 obtain ⟨c0, c1, c2, c3, c4, c5, c6, c7, c8⟩ := H1.out.cells
 have CG := Go.Lib.hid (fun (W : World) (h : Below w.heap.size w W) => good_any _ a W (HV.out.keep h) hln)
 cases hg : goodA a with
 | false =>
  rw [hg] at CG
  clear hS hln
  unfold acells at CG ⊢
  go_enter Tryz.func21, Tryz.ntmps21
  go_wp2_with (go_at_call 27; refine (CG.out _ B1.out).mono ?_; rintro e x ⟨rfl, hb⟩; have B2 := Go.Lib.hid (B1.out.trans (hb.mono B1.out.size)); clear hb)
  go_ret2
  exact .inl ⟨hg, rfl, B2.out⟩
 | true =>
  rw [hg] at CG
  have HGD := Go.Lib.hid hg
  have CH := Go.Lib.hid (fun (k : Nat) (hk : k ≤ 8) (W : World) => has_any a.has k (.int .i64 a.origin) vp (.int .u32 (a.hop : Nat)) (.int .u32 (a.med : Nat)) (.int .u32 (a.pref : Nat)) (.int .u32 (a.aas : Nat)) (.int .u32 (a.aid : Nat)) vc W hk)
  clear hS hln hg
  unfold acells at CG HV ⊢
  go_enter Tryz.func21, Tryz.ntmps21
  go_wp2_with (go_at_call 27; refine (CG.out _ B1.out).mono ?_; rintro e x ⟨rfl, hb⟩; have S0 := Go.Lib.hid (show ValSt w (.pointer (some ⟨x.heap.size, 0, none⟩)) w.heap.size (.int .i64 a.has) (.int .i64 a.origin) (vp) (.int .u32 (a.hop : Nat)) (.int .u32 (a.med : Nat)) (.int .u32 (a.pref : Nat)) (.int .u32 (a.aas : Nat)) (.int .u32 (a.aid : Nat)) (vc) (encTo a 0) (fun k => k = x.heap.size) (x.alloc (.cells #[.slice none 0 0] 52)) from ⟨wr_zero x (B1.out.trans (hb.mono B1.out.size)).size, (by have h1 := (H1.out.keep hb).lt; show ¬ _ = _; omega), (H1.out.keep hb).keep ((Below.refl _ x).alloc (Nat.le_refl _) _), (B1.out.trans (hb.mono B1.out.size)).alloc (B1.out.trans (hb.mono B1.out.size)).size _⟩); clear hb)
  go_loopw [5] (fun v5 wx => ∃ (j : Nat) (F : Nat → Prop), j ≤ 8 ∧ v5 = .int .i64 ((j + 1 : Nat) : Int) ∧ Hid (ValSt w (.pointer (some ⟨x.heap.size, 0, none⟩)) w.heap.size (.int .i64 a.has) (.int .i64 a.origin) (vp) (.int .u32 (a.hop : Nat)) (.int .u32 (a.med : Nat)) (.int .u32 (a.pref : Nat)) (.int .u32 (a.aas : Nat)) (.int .u32 (a.aid : Nat)) (vc) (encTo a j) F wx)) (fun v5 _ => 12 - (intOf v5).toNat)
  case atStart => exact ⟨0, _, by omega, rfl, S0⟩
  case round =>
   obtain ⟨j, F, hj, rfl, ST⟩ := hrel
   clear c0 c1 c2 c3 c4 c5 c6 c7 c8
   by_cases hlt : j < 8
   ·have z1 : ((j + 1 : Nat) : Int) ≤ 8 := by omega
    obtain ⟨k, hk⟩ : ∃ k, k = j + 1 := ⟨_, rfl⟩
    have HT := Go.Lib.hid (show encTo a k = encTo a j ++ if hasB a.has (k : Int) then attrB a k else [] by rw [hk]; rfl)
    have HN := Go.Lib.hid (encTo_len HGD.out j)
    have CHK := Go.Lib.hid (fun W => CH.out k (by omega) W)
    have wk : wrap64 ((k : Int) + 1) = ((k + 1 : Nat) : Int) := by unfold wrap64; omega
    rw [← hk] at z1
    rw [← hk]
    have HK := Go.Lib.hid (show 1 ≤ k ∧ k ≤ 8 from ⟨by omega, by omega⟩)
    obtain ⟨c0, c1, c2, c3, c4, c5, c6, c7, c8⟩ := ST.out.b9.cells
    cases hb : hasB a.has (k : Int) with
    | false =>
     rw [hb] at CHK HT
     clear hb hk
     go_wp2_with (go_at_call 58; refine (CHK.out _).mono ?_; rintro e y ⟨rfl, hy⟩; have S2 := Go.Lib.hid (ST.out.below hy); clear hy c0 c1 c2 c3 c4 c5 c6 c7 c8)
     go_roundw
     case rel =>
      refine ⟨k, F, HK.out.2, by first | exact congrArg _ wk | go_num, Go.Lib.hid ?_⟩
      rw [HT.out, if_neg (by decide), List.append_nil]
      exact S2.out
     case measure => have h := HK.out; simp [intOf]; omega
    | true =>
     rw [hb] at CHK HT
     clear hb hk
     have CF := Go.Lib.hid (fun W (h : Below w.heap.size w W) => show Calls Tryz.prog 59 #[.int .i64 k] W (Tells (.int .i64 (flagN k : Nat)) W) from by
      have q := flags_any (k : Int) W (HSH.out.keep h)
      rw [flagN_is] at q
      exact q)
     have hgb := HGD.out
     unfold goodA waysP goodP at hgb
     simp only [Bool.and_eq_true, decide_eq_true_eq] at hgb
     obtain ⟨⟨⟨_, ⟨⟨hp1, _⟩, hp2⟩⟩, _⟩, hp3⟩ := hgb
     have CV := Go.Lib.hid (fun W (h : Below w.heap.size w W) => value_any _ a k W (HV.out.keep h) HK.out.1 HK.out.2 (by omega) (by omega) (by omega))
     clear hp1 hp2 hp3
     have HVL := Go.Lib.hid (And.intro (valB_len HGD.out k) (valB_small a k))
     have HAT := Go.Lib.hid (show attrB a k = itemB (longF (flagN k) (valB a k).length) k (valB a k) from rfl)
     generalize valB a k = m at CV HVL HAT
     go_upto_region 8 with (go_at_call 58; refine (CHK.out _).mono ?_; rintro e y ⟨rfl, hy⟩; replace ST := Go.Lib.hid (ST.out.below hy); clear hy c0 c1 c2 c3 c4 c5 c6 c7 c8; obtain ⟨c0, c1, c2, c3, c4, c5, c6, c7, c8⟩ := ST.out.b9.cells)
     go_cut [6] from 18 to 24 (fun s6 wx => ∃ (C : Nat) (Av : Option Addr) (cv : Nat), s6 = .pointer (some ⟨C, 0, none⟩) ∧ Hid (ValSt w (.pointer (some ⟨x.heap.size, 0, none⟩)) w.heap.size (.int .i64 a.has) (.int .i64 a.origin) (vp) (.int .u32 (a.hop : Nat)) (.int .u32 (a.med : Nat)) (.int .u32 (a.pref : Nat)) (.int .u32 (a.aas : Nat)) (.int .u32 (a.aid : Nat)) (vc) (encTo a j) F wx) ∧ Hid (Box3 wx C 90 (.int .i64 (flagN k : Nat)) (.int .i64 k) (.slice Av m.length cv) ∧ ¬ F C ∧ w.heap.size ≠ C ∧ w.heap.size ≤ C) ∧ Hid (Beside wx F (.slice Av m.length cv) m) ∧ Hid (∀ g, (Value.slice Av m.length cv).ownBlock = some g → g ≠ C))
     case first =>
      have D0 := Go.Lib.hid (ST.out.below (Below.refl _ _).drew)
      clear ST c0 c1 c2 c3 c4 c5 c6 c7 c8
      obtain ⟨c0, c1, c2, c3, c4, c5, c6, c7, c8⟩ := D0.out.b9.cells
      go_region_held3 (fun w' => w'.cell? ⟨w.heap.size, 0, none⟩ = some (.int .i64 a.has) ∧ w'.cell? ⟨w.heap.size, 1, none⟩ = some (.int .i64 a.origin) ∧ w'.cell? ⟨w.heap.size, 2, none⟩ = some (vp) ∧ w'.cell? ⟨w.heap.size, 3, none⟩ = some (.int .u32 (a.hop : Nat)) ∧ w'.cell? ⟨w.heap.size, 4, none⟩ = some (.int .u32 (a.med : Nat)) ∧ w'.cell? ⟨w.heap.size, 5, none⟩ = some (.int .u32 (a.pref : Nat)) ∧ w'.cell? ⟨w.heap.size, 6, none⟩ = some (.int .u32 (a.aas : Nat)) ∧ w'.cell? ⟨w.heap.size, 7, none⟩ = some (.int .u32 (a.aid : Nat)) ∧ w'.cell? ⟨w.heap.size, 8, none⟩ = some (vc)) (first | exact ⟨by assumption, by assumption, by assumption, by assumption, by assumption, by assumption, by assumption, by assumption, by assumption⟩ | exact (D0.out.b9.keep ((Below.refl _ _).alloc (Nat.le_refl _) _)).cells | exact (D0.out.laid _ _ _ BX.out.2.1 BX.out.2.2.1 BX.out.2.2.2).b9.cells) (first
       | (go_at_call 59; ((first | (refine (CF.out _ D0.out.low).mono ?_) | (first | (have HNE := Go.Lib.hid (fun g (hg : (Value.slice Av m.length cv).ownBlock = some g) => Nat.ne_of_lt (HM.out.2 g hg).1); replace HM := Go.Lib.hid (HM.out.keep ((Below.refl _ _).alloc (Nat.le_refl _) (.cells #[.int .i64 0, .int .i64 0, .slice none 0 0] 90)))) | skip); (first | obtain ⟨hD, hB⟩ := D0.out.boxn (n := y.heap.size) rfl (.int .i64 0) (.int .i64 0) (.slice none 0 0) | obtain ⟨hD, hB⟩ := D0.out.box (.int .i64 0) (.int .i64 0) (.slice none 0 0)); replace D0 := Go.Lib.hid hD; have BX := Go.Lib.hid hB; clear hD hB; refine (CF.out _ D0.out.low).mono ?_); rintro e z ⟨rfl, hz⟩; (first | replace HM := Go.Lib.hid (HM.out.keep hz) | skip); (first | (replace BX := Go.Lib.hid (And.intro (BX.out.1.keep hz) BX.out.2); obtain ⟨b0, b1, b2⟩ := BX.out.1.cells; have bf := BX.out.1.free) | skip); replace D0 := Go.Lib.hid (D0.out.below hz); clear hz c0 c1 c2 c3 c4 c5 c6 c7 c8; obtain ⟨c0, c1, c2, c3, c4, c5, c6, c7, c8⟩ := D0.out.b9.cells))
       | (go_at_call 60; ((first | (refine (CV.out _ D0.out.low).mono ?_) | ((first | obtain ⟨hD, hB⟩ := D0.out.boxn (n := y.heap.size) rfl (.int .i64 0) (.int .i64 0) (.slice none 0 0) | obtain ⟨hD, hB⟩ := D0.out.box (.int .i64 0) (.int .i64 0) (.slice none 0 0)); replace D0 := Go.Lib.hid hD; have BX := Go.Lib.hid hB; clear hD hB; refine (CV.out _ D0.out.low).mono ?_)); rintro e z ⟨Av, cv, rfl, ho, hz⟩; (first | have HNE := Go.Lib.hid (fun g (hg : (Value.slice Av m.length cv).ownBlock = some g) => Nat.ne_of_gt (Nat.lt_of_lt_of_le BX.out.1.lt (ho.lt g hg).1)) | skip); have HM := Go.Lib.hid (show Beside z F (.slice Av m.length cv) m from ⟨U8s.of_own ho HVL.out.2, fun g hg => ⟨(ho.lt g hg).2, fun hf => by have h1 := (D0.out.wr.lt g hf).2; have h2 := (ho.lt g hg).1; omega⟩⟩); (first | (replace BX := Go.Lib.hid (And.intro (BX.out.1.keep hz) BX.out.2); obtain ⟨b0, b1, b2⟩ := BX.out.1.cells; have bf := BX.out.1.free) | skip); replace D0 := Go.Lib.hid (D0.out.below hz); clear ho hz c0 c1 c2 c3 c4 c5 c6 c7 c8; obtain ⟨c0, c1, c2, c3, c4, c5, c6, c7, c8⟩ := D0.out.b9.cells)))
      ·go_wp2_with fail
       go_meet
       exact ⟨_, Av, cv, rfl, Go.Lib.hid (D0.out.box _ _ _).1, Go.Lib.hid (D0.out.box _ _ _).2, Go.Lib.hid (HM.out.keep ((Below.refl _ _).alloc (Nat.le_refl _) _)), Go.Lib.hid (fun g hg => Nat.ne_of_lt (HM.out.2 g hg).1)⟩
      ·go_wp2_with fail
       go_meet
       exact ⟨_, Av, cv, rfl, Go.Lib.hid (D0.out.laid _ _ _ BX.out.2.1 BX.out.2.2.1 BX.out.2.2.2), Go.Lib.hid ⟨BX.out.1.laid _ _ _, BX.out.2⟩, Go.Lib.hid (HM.out.laid _ _ _ HNE.out), HNE⟩
      ·go_wp2_with fail
       go_meet
       exact ⟨_, Av, cv, rfl, Go.Lib.hid (D0.out.laid _ _ _ BX.out.2.1 BX.out.2.2.1 BX.out.2.2.2), Go.Lib.hid ⟨BX.out.1.laid _ _ _, BX.out.2⟩, Go.Lib.hid (HM.out.laid _ _ _ HNE.out), HNE⟩
     case rest =>
     clear ST c0 c1 c2 c3 c4 c5 c6 c7 c8
     obtain ⟨C, Av, cv, rfl, ST, BX, HM, HNE⟩ := hcut
     obtain ⟨b0, b1, b2⟩ := BX.out.1.cells
     have bf := BX.out.1.free
     have HFL := Go.Lib.hid (flagN_is3 HK.out.1 HK.out.2)
     by_cases hm : 255 < m.length
     ·have z255 : (255 : Int) < (m.length : Int) := by omega
      have o16 : bits .or .i64 (flagN k : Nat) 16 = ((flagN k + 16 : Nat) : Int) := by rcases HFL.out with e | e | e <;> rw [e] <;> first | exact or16.1 | exact or16.2.1 | exact or16.2.2
      have HLF := Go.Lib.hid (show attrB a k = itemB (flagN k + 16) k m by rw [HAT.out]; unfold longF; rw [if_pos hm])
      have BX2 := Go.Lib.hid (BX.out.1.set0 (.int .i64 ((flagN k + 16 : Nat) : Int)))
      obtain ⟨q0, q1, q2⟩ := BX2.out.cells
      have ST2 := Go.Lib.hid (ST.out.set1 (i := 0) (.int .i64 ((flagN k + 16 : Nat) : Int)) BX.out.2.1 BX.out.2.2.1 BX.out.2.2.2)
      have HM2 := Go.Lib.hid (HM.out.set1 (i := 0) (.int .i64 ((flagN k + 16 : Nat) : Int)) HNE.out)
      go_wp2_with (go_at_call 61; (refine (put_item _ Av cv w.heap.size (flagN k + 16) k _ m F _ ST2.out.wr HM2.out.only (by have h1 := HN.out; have h2 := HVL.out.1; omega) ST2.out.low.size (by have := HFL.out; omega) (by have := HK.out; omega) (by have h2 := HVL.out.1; omega) (by have := HFL.out; omega)).mono ?_; rintro e z ⟨rfl, F2, hS⟩; have S3 := Go.Lib.hid (ST2.out.wst hS); clear hS))
      go_roundw
      case rel =>
       refine ⟨k, F2, HK.out.2, by first | exact congrArg _ wk | go_num, Go.Lib.hid ?_⟩
       rw [HT.out, if_pos trivial, HLF.out]
       exact S3.out
      case measure => have h := HK.out; simp [intOf]; omega
     ·have z255 : decide ((255 : Int) < (m.length : Int)) = false := decide_eq_false (by omega)
      have HLF := Go.Lib.hid (show attrB a k = itemB (flagN k) k m by rw [HAT.out]; unfold longF; rw [if_neg hm])
      go_wp2_with (go_at_call 61; (refine (put_item _ Av cv w.heap.size (flagN k) k _ m F _ ST.out.wr HM.out.only (by have h1 := HN.out; have h2 := HVL.out.1; omega) ST.out.low.size (by have := HFL.out; omega) (by have := HK.out; omega) (by have h2 := HVL.out.1; omega) (by have := HFL.out; omega)).mono ?_; rintro e z ⟨rfl, F2, hS⟩; have S3 := Go.Lib.hid (ST.out.wst hS); clear hS))
      go_roundw
      case rel =>
       refine ⟨k, F2, HK.out.2, by first | exact congrArg _ wk | go_num, Go.Lib.hid ?_⟩
       rw [HT.out, if_pos trivial, HLF.out]
       exact S3.out
      case measure => have h := HK.out; simp [intOf]; omega
   ·obtain rfl : j = 8 := by omega
    have z1 : decide (((8 + 1 : Nat) : Int) ≤ 8) = false := rfl
    have HN := Go.Lib.hid (encTo_len HGD.out 8)
    go_wp2_with (go_at_call 24; (refine (wbytes_any _ _ _ _ _ ST.out.wr (by have := HN.out; omega)).mono ?_; rintro e y ⟨A1, c1, rfl, ho, hy⟩; have HO := Go.Lib.hid (own_base ho ST.out.low.size); have HY := Go.Lib.hid (ST.out.low.trans (hy.mono ST.out.low.size)); clear ho hy))
    go_ret2
    exact .inr ⟨HGD.out, A1, c1, rfl, HO.out, HY.out⟩
end Go.Proofs.YtlhdjdnflpilbaaGreatDoor.Att
namespace Go.Proofs.YtlhdjdnflpilbaaGreatDoor.Att
open Go.RowKit Mem Segm Oct
def sizeA (a : At) : Nat := if goodA a then (encA a).length else 0
theorem enc_good {v : Value} {a : At} {w : World} (hv : Attrs w v a) (hS : Shp w) (hln : lens a.path ≤ 100000) (hg : goodA a = true) : Calls Tryz.prog 21 #[v] w (fun e w' => ∃ A c, e = .returned (.tuple #[.slice A (encA a).length c, .int .i64 0]) ∧ w'.ownsRow w.heap.size 5 1 (.slice A (encA a).length c) (encA a).length (cells8 (encA a)) ∧ Below w.heap.size w w') :=
 (encode_any v a w hv hS hln).mono fun e w' h => by
  rcases h with ⟨h1, _⟩ | ⟨_, h2⟩
  ·rw [hg] at h1; cases h1
  ·exact h2
theorem enc_bad {v : Value} {a : At} {w : World} (hv : Attrs w v a) (hS : Shp w) (hln : lens a.path ≤ 100000) (hg : goodA a = false) : Calls Tryz.prog 21 #[v] w (Tells (.tuple #[.slice none 0 0, .int .i64 1]) w) :=
 (encode_any v a w hv hS hln).mono fun e w' h => by
  rcases h with ⟨_, h2⟩ | ⟨h1, _⟩
  ·exact h2
  ·rw [hg] at h1; cases h1
set_option maxHeartbeats 1000000 in
theorem asize_any (v : Value) (a : At) (w : World) (hv : Attrs w v a) (hS : Shp w) (hln : lens a.path ≤ 100000) : Calls Tryz.prog 36 #[v] w (Tells (.int .i64 (sizeA a : Nat)) w) := by
 have HV := Go.Lib.hid hv
 obtain ⟨_, vp, vc, rfl, -, -⟩ := hv
 have HSH := Go.Lib.hid hS
 have H1 := Go.Lib.hid (Box9.new w 27 (.int .i64 a.has) (.int .i64 a.origin) (vp) (.int .u32 (a.hop : Nat)) (.int .u32 (a.med : Nat)) (.int .u32 (a.pref : Nat)) (.int .u32 (a.aas : Nat)) (.int .u32 (a.aid : Nat)) (vc))
 have B1 := Go.Lib.hid (show Below w.heap.size w (w.alloc (.cells #[.int .i64 a.has, .int .i64 a.origin, vp, .int .u32 (a.hop : Nat), .int .u32 (a.med : Nat), .int .u32 (a.pref : Nat), .int .u32 (a.aas : Nat), .int .u32 (a.aid : Nat), vc] 27)) from (Below.refl _ w).alloc (Nat.le_refl _) _)
 obtain ⟨c0, c1, c2, c3, c4, c5, c6, c7, c8⟩ := H1.out.cells
 cases hg : goodA a with
 | false =>
  have HZ := Go.Lib.hid (show sizeA a = 0 by unfold sizeA; rw [hg]; rfl)
  have C := Go.Lib.hid (enc_bad (HV.out.keep B1.out) (HSH.out.keep B1.out) hln hg)
  unfold acells at C ⊢
  clear hg hS hln
  go_enter Tryz.func36, Tryz.ntmps36
  go_wp2_with (go_at_call 21; refine C.out.mono ?_; rintro e x ⟨rfl, hb⟩; have B2 := Go.Lib.hid (B1.out.trans (hb.mono B1.out.size)); clear hb)
  go_ret
  rw [HZ.out]
  exact ⟨rfl, B2.out⟩
 | true =>
  have HZ := Go.Lib.hid (show sizeA a = (encA a).length by unfold sizeA; rw [hg]; rfl)
  have C := Go.Lib.hid (enc_good (HV.out.keep B1.out) (HSH.out.keep B1.out) hln hg)
  unfold acells at C ⊢
  clear hg hS hln
  go_enter Tryz.func36, Tryz.ntmps36
  go_wp2_with (go_at_call 21; refine C.out.mono ?_; rintro e x ⟨A, c, rfl, -, hb⟩; have B2 := Go.Lib.hid (B1.out.trans (hb.mono B1.out.size)); clear hb)
  go_ret
  rw [HZ.out]
  exact ⟨rfl, B2.out⟩
end Go.Proofs.YtlhdjdnflpilbaaGreatDoor.Att
namespace Go.Proofs.YtlhdjdnflpilbaaGreatDoor.Att
open Go.RowKit Mem Segm Oct
attribute [local go_sem ↓] Go.wp_at_zero Go.wp_at_succ
structure BxSt (w0 : World) (x0 x1 x2 x3 x4 x5 x6 x7 x8 : Value) (v : Value) (n : Nat) (l : List Nat) (W : World) : Prop where
 b9 : Box9 W w0.heap.size 27 x0 x1 x2 x3 x4 x5 x6 x7 x8
 own : W.ownsRow (w0.heap.size + 1) 5 1 v n (cells8 l)
 low : Below w0.heap.size w0 W
section
variable {w0 W W2 : World} {x0 x1 x2 x3 x4 x5 x6 x7 x8 v v2 : Value} {l l2 : List Nat} {n n2 : Nat}
theorem BxSt.below (h : BxSt w0 x0 x1 x2 x3 x4 x5 x6 x7 x8 v n l W) (hb : Below W.heap.size W W2) : BxSt w0 x0 x1 x2 x3 x4 x5 x6 x7 x8 v n l W2 :=
 ⟨h.b9.keep hb, own_keep h.own hb, h.low.trans (hb.mono h.low.size)⟩
theorem BxSt.grow (h : BxSt w0 x0 x1 x2 x3 x4 x5 x6 x7 x8 v n l W) (hg : W.grownBy W2 v.ownBlock) (ho : W2.ownsRow (w0.heap.size + 1) 5 1 v2 n2 (cells8 l2)) : BxSt w0 x0 x1 x2 x3 x4 x5 x6 x7 x8 v2 n2 l2 W2 :=
 ⟨⟨(hg.block _ h.b9.lt (fun he => by have := (h.own.lt _ he.symm).1; omega)).trans h.b9.blk⟩, ho, h.low.trans (below_of_grown h.own hg h.b9.lt |>.mono (Nat.le_succ _))⟩
theorem bx_start (w : World) (x0 x1 x2 x3 x4 x5 x6 x7 x8 : Value) : BxSt w x0 x1 x2 x3 x4 x5 x6 x7 x8 (.slice (some ⟨w.heap.size + 1, 0, none⟩) 0 0) 0 [] ((w.alloc (.cells #[x0, x1, x2, x3, x4, x5, x6, x7, x8] 27)).alloc (.cells #[] 5)) := by
 have hb : Below w.heap.size w (w.alloc (.cells #[x0, x1, x2, x3, x4, x5, x6, x7, x8] 27)) := (Below.refl _ w).alloc (Nat.le_refl _) _
 have hs : (w.alloc (.cells #[x0, x1, x2, x3, x4, x5, x6, x7, x8] 27)).heap.size = w.heap.size + 1 := by simp
 refine ⟨(Box9.new w _ x0 x1 x2 x3 x4 x5 x6 x7 x8).keep ((Below.refl _ _).alloc (Nat.le_refl _) _), ?_, hb.alloc hb.size _⟩
 exact own_blk (Nat.le_refl _) (by rw [← hs]; exact heap_alloc_new _ _)
end
set_option maxRecDepth 100000 in
set_option maxHeartbeats 2000000 in
theorem val7 (h o : Int) (vp vc : Value) (hp md pr ag ai : Nat) (w : World) (ha : ag < 4294967296) (hi : ai < 4294967296) : Calls Tryz.prog 80 #[.agg #[.int .i64 h, .int .i64 o, vp, .int .u32 hp, .int .u32 md, .int .u32 pr, .int .u32 ag, .int .u32 ai, vc], .int .i64 7] w (Gives8 (big ag 4 ++ big ai 4) w) := by
  obtain ⟨i0, E0⟩ := elem8
  have HC := Go.Lib.hid (Box9.new w 27 (.int .i64 h) (.int .i64 o) vp (.int .u32 hp) (.int .u32 md) (.int .u32 pr) (.int .u32 ag) (.int .u32 ai) vc)
  have HB := Go.Lib.hid ((Below.refl _ w).alloc (Nat.le_refl _) (.cells #[.int .i64 h, .int .i64 o, vp, .int .u32 hp, .int .u32 md, .int .u32 pr, .int .u32 ag, .int .u32 ai, vc] 27))
  have CB := Go.Lib.hid (fun (n : Nat) (hn : n < 4294967296) W => show Calls Tryz.prog 39 #[.int .u64 n, .int .i64 4] W (fun e w' => ∃ A c, e = .returned (.slice A 4 c) ∧ w'.ownsRow W.heap.size 5 1 (.slice A 4 c) 4 (cells8 (big n 4)) ∧ Below W.heap.size W w') from (big_any n 4 W (by omega) (by omega)).mono fun e w' h => by
    obtain ⟨A, c, h1, h2, h3⟩ := h
    rw [big_len] at h1 h2
    exact ⟨A, c, h1, h2, h3⟩)
  have wa : IntKind.u64.wrap (ag : Int) = (ag : Int) := by rw [IntKind.wrap_u64]; omega
  have wi : IntKind.u64.wrap (ai : Int) = (ai : Int) := by rw [IntKind.wrap_u64]; omega
  have CA := Go.Lib.hid (CB.out ag ha)
  have CI := Go.Lib.hid (CB.out ai hi)
  obtain ⟨W0, hW0⟩ : ∃ W0, W0 = w.alloc (.cells #[.int .i64 h, .int .i64 o, vp, .int .u32 hp, .int .u32 md, .int .u32 pr, .int .u32 ag, .int .u32 ai, vc] 27) := ⟨_, rfl⟩
  rw [← hW0] at HC HB
  have HC2 := Go.Lib.hid (HC.out.keep ((Below.refl _ _).alloc (Nat.le_refl _) (.cells #[] 5)))
  have HB2 := Go.Lib.hid (HB.out.alloc HB.out.size (.cells #[] 5))
  rw [hW0] at HB2 HC2
  clear hW0 ha hi CB HB HC
  go_enter Tryz.func80, Tryz.ntmps80
  go_wp2
  have D0 := Go.Lib.hid (HC2.out.keep ((Below.refl _ _).drew))
  have B0 := Go.Lib.hid (HB2.out.trans ((Below.refl _ _).drew.mono HB2.out.size))
  obtain ⟨-, -, -, -, -, -, c6, c7, -⟩ := D0.out.cells
  go_region_held3 (fun w' => w'.cell? ⟨w.heap.size, 6, none⟩ = some (.int .u32 ag) ∧ w'.cell? ⟨w.heap.size, 7, none⟩ = some (.int .u32 ai)) (exact ⟨by assumption, by assumption⟩) (first
    | (have hq := D0.out; go_at_call 39; refine (CA.out _).mono ?_; rintro e x ⟨A1, q1, rfl, hu, hb⟩; have HU1 := Go.Lib.hid (own_base hu (show w.heap.size + 1 ≤ _ from hq.lt)); have D1 := Go.Lib.hid (hq.keep hb); have B1 := Go.Lib.hid (B0.out.trans (hb.mono B0.out.size)); clear hu hb hq D0 B0 c6 c7; obtain ⟨-, -, -, -, -, -, c6, c7, -⟩ := D1.out.cells)
    | (have hq := D1.out; go_at_call 39; refine (CI.out _).mono ?_; rintro e x ⟨A2, q2, rfl, hu, hb⟩; have HR2 := Go.Lib.hid (Row.of_own hu); have D2 := Go.Lib.hid (hq.keep hb); have B2 := Go.Lib.hid (B1.out.trans (hb.mono B1.out.size)); have HU2 := Go.Lib.hid (own_keep HU1.out hb); clear hu hb hq D1 B1 HU1 c6 c7; obtain ⟨-, -, -, -, -, -, c6, c7, -⟩ := D2.out.cells)
    | (have tok := HR2.out
       refine step_append_row (by rfl) (.tmp 92) (.tmp 96) (by rfl) E0 (w.heap.size + 1) _ 4 (cells8 (big ag 4)) (by rfl) ?_ _ 4 (cells8 (big ai 4)) (by rfl) ?_ (ones8 _) ?_ ?_ ?_ 8 (by rfl) ?_
       · exact HU2.out
       · exact tok
       · unfold maxLen; omega
       · omega
       · exact D2.out.lt
       intro A3 q3 x3 hown hgr hat hb1
       have HU3 := Go.Lib.hid hown
       have D3 := Go.Lib.hid (Box9.mk ((hgr.block _ D2.out.lt (fun he => by have := HU2.out.lt _ he.symm; omega)).trans D2.out.blk) : Box9 x3 w.heap.size _ _ _ _ _ _ _ _ _ _)
       have B3 := Go.Lib.hid (B2.out.trans (hb1.mono (Nat.le_succ _)))
       clear hown hgr hat hb1 tok HR2 HU2 c6 c7
       obtain ⟨-, -, -, -, -, -, c6, c7, -⟩ := D3.out.cells))
  go_wp2
  go_loopw [5, 8] (fun v5 v8 wx => v5 = .slice A3 8 q3 ∧ v8 = .int .i64 0 ∧ wx = x3) (fun _ _ _ => 0)
  case atStart => exact ⟨rfl, rfl, rfl⟩
  case round =>
    obtain ⟨rfl, rfl, rfl⟩ := hrel
    go_wp2
    go_ret
    exact ⟨A3, q3, by rw [List.length_append, big_len, big_len]; rfl, by rw [List.length_append, big_len, big_len, cells8_append]; exact own_base HU3.out (Nat.le_succ _), B3.out⟩
set_option maxRecDepth 100000 in
set_option maxHeartbeats 2000000 in
theorem val8 (h o : Int) (vp vc : Value) (hp md pr ag ai : Nat) (w : World) (cm : List Nat) (hC : U32s w vc cm) (hl : cm.length ≤ 100000) : Calls Tryz.prog 80 #[.agg #[.int .i64 h, .int .i64 o, vp, .int .u32 hp, .int .u32 md, .int .u32 pr, .int .u32 ag, .int .u32 ai, vc], .int .i64 8] w (Gives8 (fours cm) w) := by
 obtain ⟨i0, E0⟩ := elem8
 obtain ⟨Ac, cc, rfl, -, -, -, -⟩ := hC.open_
 have HU := Go.Lib.hid hC
 have HL := Go.Lib.hid hl
 have CB := Go.Lib.hid (fun (n : Nat) (hn : n < 4294967296) W => show Calls Tryz.prog 39 #[.int .u64 n, .int .i64 4] W (fun e w' => ∃ A c, e = .returned (.slice A 4 c) ∧ w'.ownsRow W.heap.size 5 1 (.slice A 4 c) 4 (cells8 (big n 4)) ∧ Below W.heap.size W w') from (big_any n 4 W (by omega) (by omega)).mono fun e w' h => by
  obtain ⟨A, c, h1, h2, h3⟩ := h
  rw [big_len] at h1 h2
  exact ⟨A, c, h1, h2, h3⟩)
 have ST := Go.Lib.hid (bx_start w (.int .i64 h) (.int .i64 o) vp (.int .u32 hp) (.int .u32 md) (.int .u32 pr) (.int .u32 ag) (.int .u32 ai) (.slice Ac cm.length cc))
 clear hC hl
 go_enter Tryz.func80, Tryz.ntmps80
 go_wp2
 go_loopw [5, 8] (fun v5 v8 wx => ∃ (j : Nat) (A : Option Addr) (c : Nat), j ≤ cm.length ∧ v8 = .int .i64 j ∧ v5 = .slice A (4 * j) c ∧ Hid (BxSt w (.int .i64 h) (.int .i64 o) vp (.int .u32 hp) (.int .u32 md) (.int .u32 pr) (.int .u32 ag) (.int .u32 ai) (.slice Ac cm.length cc) (.slice A (4 * j) c) (4 * j) (fours (cm.take j)) wx)) (fun _ v8 _ => cm.length - (intOf v8).toNat)
 case atStart => exact ⟨0, _, _, Nat.zero_le _, rfl, rfl, ST⟩
 case round =>
  obtain ⟨j, A, c, hj, rfl, rfl, SJ⟩ := hrel
  have hcl := HL.out
  obtain ⟨-, -, -, -, -, -, -, -, c8⟩ := SJ.out.b9.cells
  by_cases hlt : j < cm.length
  ·obtain ⟨b, off, x, rfl, hbl, hx, hx32, k0⟩ := HU.out.at_ hlt
   replace k0 := keeps SJ.out.low k0
   have z0 : (0 : Int) ≤ (j : Int) := by omega
   have z1 : (j : Int) < (cm.length : Int) := by omega
   have wx : IntKind.u64.wrap (x : Int) = (x : Int) := by rw [IntKind.wrap_u64]; omega
   have CX := Go.Lib.hid (CB.out x hx32)
   have HT := Go.Lib.hid (fours_take hx)
   have hj5 : j ≤ 100000 := by omega
   clear hx hx32
   go_wp2_with (first
    | (go_at_call 39; refine (CX.out _).mono ?_; rintro e w1 ⟨A1, q1, rfl, hu, hb⟩; have HR := Go.Lib.hid (Row.of_own hu); have S1 := Go.Lib.hid (SJ.out.below hb); clear hu hb c8 k0)
    | (at_builtin; refine wpList_append_row rfl (.tmp 109) (.tmp 116) rfl E0 (w.heap.size + 1) _ (4 * j) (cells8 (fours (cm.take j))) rfl S1.out.own _ 4 _ rfl HR.out (ones8 _) (by unfold maxLen; omega) (by omega) (Nat.succ_le_of_lt S1.out.b9.lt) (4 * (j + 1)) (by omega) ?_; intro A2 q2 w2 hown hg hat hb; have S2 := Go.Lib.hid (S1.out.grow (l2 := fours (cm.take j) ++ big x 4) hg (by rw [cells8_append]; exact hown)); clear hown hg hat hb S1 HR))
   go_roundw
   case rel =>
    refine ⟨j + 1, A2, q2, hlt, by go_num, rfl, Go.Lib.hid ?_⟩
    rw [HT.out]
    exact S2.out
   case measure => simp [intOf]; omega
  ·obtain rfl : j = cm.length := by omega
   have z1 : decide ((cm.length : Int) < (cm.length : Int)) = false := by simp
   go_wp2
   go_ret
   have hh := SJ.out
   rw [List.take_length] at hh
   exact ⟨A, c, by rw [fours_len]; rfl, by rw [fours_len]; exact own_base hh.own (Nat.le_succ _), hh.low⟩
set_option maxRecDepth 100000 in
set_option maxHeartbeats 4000000 in
theorem val2 (h o : Int) (vp vc : Value) (hp md pr ag ai : Nat) (w : World) (p : List Piece) (hP : Segs w vp p) (hp1 : p.length ≤ 10000) (hp2 : lens p ≤ 20000) : Calls Tryz.prog 80 #[.agg #[.int .i64 h, .int .i64 o, vp, .int .u32 hp, .int .u32 md, .int .u32 pr, .int .u32 ag, .int .u32 ai, vc], .int .i64 2] w (Gives8 (pathB p) w) := by
  obtain ⟨i0, E0⟩ := elem8
  obtain ⟨Ap, cp, rfl, -, -⟩ := hP.form
  have HP := Go.Lib.hid hP
  have HL := Go.Lib.hid (And.intro hp1 hp2)
  have CB := Go.Lib.hid (fun (n : Nat) (hn : n < 4294967296) W => show Calls Tryz.prog 39 #[.int .u64 n, .int .i64 4] W (fun e w' => ∃ A c, e = .returned (.slice A 4 c) ∧ w'.ownsRow W.heap.size 5 1 (.slice A 4 c) 4 (cells8 (big n 4)) ∧ Below W.heap.size W w') from (big_any n 4 W (by omega) (by omega)).mono fun e w' h => by
    obtain ⟨A, c, h1, h2, h3⟩ := h
    rw [big_len] at h1 h2
    exact ⟨A, c, h1, h2, h3⟩)
  have ST := Go.Lib.hid (bx_start w (.int .i64 h) (.int .i64 o) (.slice Ap p.length cp) (.int .u32 hp) (.int .u32 md) (.int .u32 pr) (.int .u32 ag) (.int .u32 ai) vc)
  clear hP hp1 hp2
  go_enter Tryz.func80, Tryz.ntmps80
  go_wp2
  go_loopw [5, 6] (fun v5 v6 wx => ∃ (j n : Nat) (A : Option Addr) (c : Nat), j ≤ p.length ∧ v6 = .int .i64 j ∧ v5 = .slice A n c ∧ Hid (n = (pathB (p.take j)).length) ∧ n ≤ 100000 ∧ Hid (BxSt w (.int .i64 h) (.int .i64 o) (.slice Ap p.length cp) (.int .u32 hp) (.int .u32 md) (.int .u32 pr) (.int .u32 ag) (.int .u32 ai) vc (.slice A n c) n (pathB (p.take j)) wx)) (fun _ v6 _ => p.length - (intOf v6).toNat)
  case atStart => exact ⟨0, 0, _, _, Nat.zero_le _, rfl, rfl, Go.Lib.hid rfl, Nat.zero_le _, ST⟩
  case round =>
    obtain ⟨j, n, A, c, hj, rfl, rfl, HN, hn, SJ⟩ := hrel
    have hpl := HL.out.1
    obtain ⟨-, -, c2, -, -, -, -, -, -⟩ := SJ.out.b9.cells
    by_cases hlt : j < p.length
    · obtain ⟨sg, hs⟩ : ∃ s, p[j]? = some s := ⟨_, List.getElem?_eq_getElem hlt⟩
      obtain ⟨b, off, x, rfl, hbl, k1, k2, hx⟩ := HP.out.at_ hs
      obtain ⟨Ax, cx, rfl, -, -, -, -⟩ := hx.open_
      have HT := Go.Lib.hid (pathB_take hs)
      have HX := Go.Lib.hid hx
      have HNL := Go.Lib.hid (show n + (2 + 4 * sg.2.length) ≤ 100000 by
        have h1 := pathB_len (p.take (j + 1))
        have h2 := lens_take_le p (j + 1)
        have h3 := HL.out
        have h4 := congrArg List.length (pathB_take hs)
        rw [List.length_append, segB_len, ← HN.out, h1, List.length_take] at h4
        omega)
      obtain ⟨m, hm⟩ : ∃ m, m = sg.2.length := ⟨_, rfl⟩
      obtain ⟨ks, hks⟩ : ∃ ks, ks = sg.1 := ⟨_, rfl⟩
      obtain ⟨a1, ha1⟩ : ∃ a, a = lo8 ks := ⟨_, rfl⟩
      obtain ⟨a2, ha2⟩ : ∃ a, a = lo8 (m : Int) := ⟨_, rfl⟩
      have w1 : IntKind.u8.wrap ks = (a1 : Int) := by rw [ha1]; exact wrap_lo8 _
      have w2 : IntKind.u8.wrap (m : Int) = (a2 : Int) := by rw [ha2]; exact wrap_lo8 _
      have HSB := Go.Lib.hid (show segB sg = [a1, a2] ++ fours sg.2 by rw [ha1, ha2, hm, hks]; rfl)
      have HM := Go.Lib.hid hm
      rw [← hm] at k2 HX HNL
      rw [← hks] at k1
      have z0 : (0 : Int) ≤ (j : Int) := by omega
      have z1 : (j : Int) < (p.length : Int) := by omega
      have HKC := Go.Lib.hid (fun (v : Value) (n : Nat) (l : List Nat) (W : World) (hb : BxSt w (.int .i64 h) (.int .i64 o) (.slice (some ⟨b, off, none⟩) p.length cp) (.int .u32 hp) (.int .u32 md) (.int .u32 pr) (.int .u32 ag) (.int .u32 ai) vc v n l W) => (⟨hb.b9.cells.2.2.1, keeps hb.low k1, keeps hb.low k2⟩ : W.cell? ⟨w.heap.size, 2, none⟩ = some (.slice (some ⟨b, off, none⟩) p.length cp) ∧ W.cell? ⟨b, off + j * 2, none⟩ = some (.int .i64 ks) ∧ W.cell? ⟨b, off + j * 2 + 1, none⟩ = some (.slice Ax m cx)))
      have kc := HKC.out _ _ _ _ (SJ.out.below ((Below.refl wr.heap.size wr).drew))
      clear hs hx hm hks ha1 ha2 k1 k2 hbl
      go_wp2
      clear c2
      go_region_held3 (fun w' => w'.cell? ⟨w.heap.size, 2, none⟩ = some (.slice (some ⟨b, off, none⟩) p.length cp) ∧ w'.cell? ⟨b, off + j * 2, none⟩ = some (.int .i64 ks) ∧ w'.cell? ⟨b, off + j * 2 + 1, none⟩ = some (.slice Ax m cx)) (first | assumption | exact HKC.out _ _ _ _ (SJ.out.below (((Below.refl wr.heap.size wr).alloc (Nat.le_refl _) (.cells #[.int .u8 a1, .int .u8 a2] 5)).drew))) (first
        | (have tok := SJ.out.below (((Below.refl wr.heap.size wr).alloc (Nat.le_refl _) (.cells #[.int .u8 a1, .int .u8 a2] 5)).drew)
           refine step_append_row (by rfl) (.tmp 27) (.tmp 43) (by rfl) E0 (w.heap.size + 1) _ n (cells8 (pathB (p.take j))) (by rfl) ?_ _ 2 (cells8 [a1, a2]) (by rfl) ?_ (ones8 _) ?_ ?_ ?_ (n + 2) (by rfl) ?_
           · exact tok.own
           · exact (Row.of_own (World.ownsRow_lit (base := 0) (e := 5) (size := 1) wr #[.int .u8 a1, .int .u8 a2] 2 (Nat.zero_le _) (by decide) rfl)).keep ((Below.refl _ _).drew)
           · unfold maxLen; omega
           · omega
           · exact tok.b9.lt
           intro A1 q1 x1 hown hgr hat hb1
           have S1 := Go.Lib.hid (tok.grow (l2 := pathB (p.take j) ++ [a1, a2]) hgr (by rw [cells8_append]; exact hown))
           replace kc := HKC.out _ _ _ _ S1.out
           clear hown hgr hat hb1 tok))
      obtain ⟨c2, k1, k2⟩ := kc
      go_wp2
      obtain ⟨wo, hwo⟩ : ∃ x, x = x1 := ⟨_, rfl⟩
      subst hwo
      have HS1 := Go.Lib.hid (show BxSt w (.int .i64 h) (.int .i64 o) (.slice (some ⟨b, off, none⟩) p.length cp) (.int .u32 hp) (.int .u32 md) (.int .u32 pr) (.int .u32 ag) (.int .u32 ai) vc (.slice A1 (n + 2) q1) (n + 2) (pathB (p.take j) ++ [a1, a2] ++ fours (sg.2.take 0)) wo by rw [List.take_zero, show fours ([] : List Nat) = [] from rfl, List.append_nil]; exact S1.out)
      clear c2 k1 k2
      go_loopw [5, 7] (fun v5 v7 wx => ∃ (i : Nat) (A : Option Addr) (c : Nat), i ≤ m ∧ v7 = .int .i64 i ∧ v5 = .slice A (n + 2 + 4 * i) c ∧ Hid (BxSt w (.int .i64 h) (.int .i64 o) (.slice (some ⟨b, off, none⟩) p.length cp) (.int .u32 hp) (.int .u32 md) (.int .u32 pr) (.int .u32 ag) (.int .u32 ai) vc (.slice A (n + 2 + 4 * i) c) (n + 2 + 4 * i) (pathB (p.take j) ++ [a1, a2] ++ fours (sg.2.take i)) wx)) (fun _ v7 _ => m - (intOf v7).toNat)
      case atStart => exact ⟨0, A1, q1, Nat.zero_le _, rfl, rfl, HS1⟩
      case round =>
        obtain ⟨i, A2, q2, hi, rfl, rfl, SI⟩ := hrel
        obtain ⟨c2, k1, k2⟩ := HKC.out _ _ _ _ SI.out
        by_cases hil : i < m
        · obtain ⟨b2, off2, y, rfl, hb2, hy, hy32, ky⟩ := (HX.out).at_ (show i < sg.2.length by have := HM.out; omega)
          replace ky := keeps SI.out.low ky
          have y0 : (0 : Int) ≤ (i : Int) := by omega
          have y1 : (i : Int) < (m : Int) := by omega
          have wy : IntKind.u64.wrap (y : Int) = (y : Int) := by rw [IntKind.wrap_u64]; omega
          have CY := Go.Lib.hid (CB.out y hy32)
          have HY := Go.Lib.hid (fours_take hy)
          have hnb : n + 2 + 4 * i + 4 ≤ 1000000 := by have := HNL.out; omega
          clear hy hy32
          go_wp2_with (first
            | (go_at_call 39; refine (CY.out _).mono ?_; rintro e x3 ⟨A3, q3, rfl, hu, hb⟩; have HR := Go.Lib.hid (Row.of_own hu); have S3 := Go.Lib.hid (SI.out.below hb); clear hu hb c2 k1 k2 ky)
            | (at_builtin; refine wpList_append_row rfl (.tmp 56) (.tmp 67) rfl E0 (w.heap.size + 1) _ (n + 2 + 4 * i) _ rfl S3.out.own _ 4 _ rfl HR.out (ones8 _) (by unfold maxLen; omega) (by omega) S3.out.b9.lt (n + 2 + 4 * (i + 1)) (by omega) ?_; intro A4 q4 x4 hown hg hat hb; have S4 := Go.Lib.hid (S3.out.grow (l2 := pathB (p.take j) ++ [a1, a2] ++ fours (sg.2.take i) ++ big y 4) hg (by rw [cells8_append]; exact hown)); clear hown hg hat hb S3 HR))
          go_roundw
          case rel =>
            refine ⟨i + 1, A4, q4, hil, by go_num, rfl, Go.Lib.hid ?_⟩
            rw [HY.out, ← List.append_assoc]
            exact S4.out
          case measure => simp [intOf]; omega
        · obtain rfl : i = m := by omega
          have y1 : decide ((i : Int) < (i : Int)) = false := by simp
          go_wp2
          go_roundw
          case rel =>
            have e := HSB.out
            have e2 := HT.out
            have e3 : pathB (p.take (j + 1)) = pathB (p.take j) ++ [a1, a2] ++ fours (sg.2.take i) := by rw [e2, e, HM.out, List.take_length, List.append_assoc]
            refine ⟨j + 1, n + 2 + 4 * i, A2, q2, hlt, by go_num, rfl, Go.Lib.hid ?_, by have := HNL.out; omega, Go.Lib.hid ?_⟩
            · rw [e3]
              have h1 := SI.out.own.1
              rw [cells8_len, Nat.mul_one] at h1
              exact h1.symm
            · rw [e3]; exact SI.out
          case measure => simp [intOf]; omega
    · obtain rfl : j = p.length := by omega
      have z1 : decide ((p.length : Int) < (p.length : Int)) = false := by simp
      have hh := SJ.out
      have hN := HN.out
      rw [List.take_length] at hh hN
      have HH := Go.Lib.hid hh
      have HN2 := Go.Lib.hid hN
      clear hh hN
      go_wp2
      obtain ⟨wo, hwo⟩ : ∃ x, x = wr := ⟨_, rfl⟩
      subst hwo
      go_loopw [5, 8] (fun v5 v8 wx => v5 = .slice A n c ∧ v8 = .int .i64 0 ∧ wx = wo) (fun _ _ _ => 0)
      case atStart => exact ⟨rfl, rfl, rfl⟩
      case round =>
        obtain ⟨rfl, rfl, rfl⟩ := hrel
        go_wp2
        go_ret
        exact ⟨A, c, by rw [← HN2.out]; rfl, by rw [← HN2.out]; exact own_base HH.out.own (Nat.le_succ _), HH.out.low⟩
end Go.Proofs.YtlhdjdnflpilbaaGreatDoor.Att
namespace Go.Proofs.YtlhdjdnflpilbaaGreatDoor.Att
open Go.RowKit Mem Segm Oct
theorem refValue8 (v : Value) (a : At) (k : Nat) (w : World) (hv : Attrs w v a) (hg : goodA a = true) (h1 : 1 ≤ k) (h8 : k ≤ 8) :
  Calls Tryz.prog 80 #[v, .int .i64 k] w (Gives8 (valB a k) w) := by
 obtain ⟨hok, vp, vc, rfl, hP, hC⟩ := hv
 obtain ⟨-, -, o3, o4, o5, o6, o7⟩ := hok
 have hg2 := hg
 unfold goodA waysP goodP at hg2
 simp only [Bool.and_eq_true, decide_eq_true_eq] at hg2
 obtain ⟨⟨⟨⟨⟨_, q1⟩, q2⟩, ⟨⟨q3, _⟩, q4⟩⟩, _⟩, q5⟩ := hg2
 have hk : k = 1 ∨ k = 2 ∨ k = 3 ∨ k = 4 ∨ k = 5 ∨ k = 6 ∨ k = 7 ∨ k = 8 := by omega
 rcases hk with rfl | rfl | rfl | rfl | rfl | rfl | rfl | rfl
 ·have e : valB a 1 = [a.origin.toNat] := by
   show [lo8 a.origin] = _
   have : lo8 a.origin = a.origin.toNat := by unfold lo8; omega
   rw [this]
  rw [e]
  exact val1 a.has a.origin vp vc a.hop a.med a.pref a.aas a.aid w (by omega) (by omega)
 ·exact val2 a.has a.origin vp vc a.hop a.med a.pref a.aas a.aid w a.path hP (by omega) (by omega)
 ·exact val3 a.has a.origin vp vc a.hop a.med a.pref a.aas a.aid w o3
 ·exact val4 a.has a.origin vp vc a.hop a.med a.pref a.aas a.aid w o4
 ·exact val5 a.has a.origin vp vc a.hop a.med a.pref a.aas a.aid w o5
 ·exact val6 a.has a.origin vp vc a.hop a.med a.pref a.aas a.aid w
 ·exact val7 a.has a.origin vp vc a.hop a.med a.pref a.aas a.aid w o6 o7
 ·exact val8 a.has a.origin vp vc a.hop a.med a.pref a.aas a.aid w a.comms hC (by omega)
structure EnSt (w0 : World) (x0 x1 x2 x3 x4 x5 x6 x7 x8 : Value) (v : Value) (n : Nat) (l : List Nat) (z : Value) (m : List Nat) (W : World) : Prop where
 b : BxSt w0 x0 x1 x2 x3 x4 x5 x6 x7 x8 v n l W
 u : U8s W z m
 ne : ∀ g, z.ownBlock = some g → g < W.heap.size ∧ v.ownBlock ≠ some g
section
variable {w0 W W2 : World} {x0 x1 x2 x3 x4 x5 x6 x7 x8 v v2 z : Value} {l l2 m : List Nat} {n n2 : Nat}
theorem EnSt.below (h : EnSt w0 x0 x1 x2 x3 x4 x5 x6 x7 x8 v n l z m W) (hb : Below W.heap.size W W2) : EnSt w0 x0 x1 x2 x3 x4 x5 x6 x7 x8 v n l z m W2 :=
 ⟨h.b.below hb, h.u.keep hb, fun g hg => ⟨Nat.lt_of_lt_of_le (h.ne g hg).1 hb.size, (h.ne g hg).2⟩⟩
theorem EnSt.grow (h : EnSt w0 x0 x1 x2 x3 x4 x5 x6 x7 x8 v n l z m W) (hg : W.grownBy W2 v.ownBlock) (ha : v2.ownBlock = v.ownBlock ∨ v2.ownBlock = some W.heap.size) (ho : W2.ownsRow (w0.heap.size + 1) 5 1 v2 n2 (cells8 l2)) : EnSt w0 x0 x1 x2 x3 x4 x5 x6 x7 x8 v2 n2 l2 z m W2 := by
 refine ⟨h.b.grow hg ho, h.u.part (fun g hz => hg.block g (h.ne g hz).1 (fun he => (h.ne g hz).2 he.symm)) hg.size, fun g hz => ⟨Nat.lt_of_lt_of_le (h.ne g hz).1 hg.size, ?_⟩⟩
 rcases ha with e | e
 ·rw [e]; exact (h.ne g hz).2
 ·rw [e]
  intro he
  injection he with he
  have := (h.ne g hz).1
  omega
theorem EnSt.start (h : BxSt w0 x0 x1 x2 x3 x4 x5 x6 x7 x8 v n l W) (hb : Below W.heap.size W W2) (ho : W2.ownsRow W.heap.size 5 1 z m.length (cells8 m)) (hm : Small m) : EnSt w0 x0 x1 x2 x3 x4 x5 x6 x7 x8 v n l z m W2 := by
 refine ⟨h.below hb, U8s.of_own ho hm, fun g hz => ⟨(ho.lt g hz).2, fun he => ?_⟩⟩
 have h1 := (ho.lt g hz).1
 have h2 := (h.own.lt g he).2
 omega
end
theorem two8 (W : World) (x y : Nat) : Row (W.alloc (.cells #[.int .u8 x, .int .u8 y] 5)) 1 (.slice (some ⟨W.heap.size, 0, none⟩) 2 2) 2 (cells8 [x, y]) :=
 Row.of_own (World.ownsRow_lit (base := 0) (e := 5) (size := 1) W #[.int .u8 x, .int .u8 y] 2 (Nat.zero_le _) (by decide) rfl)
theorem three8 (W : World) (x y z : Nat) : Row (W.alloc (.cells #[.int .u8 x, .int .u8 y, .int .u8 z] 5)) 1 (.slice (some ⟨W.heap.size, 0, none⟩) 3 3) 3 (cells8 [x, y, z]) :=
 Row.of_own (World.ownsRow_lit (base := 0) (e := 5) (size := 1) W #[.int .u8 x, .int .u8 y, .int .u8 z] 3 (Nat.zero_le _) (by decide) rfl)
set_option maxRecDepth 100000 in
set_option maxHeartbeats 4000000 in
theorem refEncode8 (v : Value) (a : At) (w : World) (hv : Attrs w v a) (hg : goodA a = true) : Calls Tryz.prog 38 #[v] w (Gives8 (encA a) w) := by
 obtain ⟨i0, E0⟩ := elem8
 have HV := Go.Lib.hid hv
 have HGD := Go.Lib.hid hg
 obtain ⟨_, vp, vc, rfl, -, -⟩ := hv
 clear hg
 unfold acells at HV ⊢
 have S0 := Go.Lib.hid (bx_start w (.int .i64 a.has) (.int .i64 a.origin) vp (.int .u32 (a.hop : Nat)) (.int .u32 (a.med : Nat)) (.int .u32 (a.pref : Nat)) (.int .u32 (a.aas : Nat)) (.int .u32 (a.aid : Nat)) vc)
 have CH := Go.Lib.hid (fun (k : Nat) (W : World) => refHas8 a.has k (.int .i64 a.origin) vp (.int .u32 (a.hop : Nat)) (.int .u32 (a.med : Nat)) (.int .u32 (a.pref : Nat)) (.int .u32 (a.aas : Nat)) (.int .u32 (a.aid : Nat)) vc W)
 go_enter Tryz.func38, Tryz.ntmps38
 go_wp2
 go_loopw [3, 4] (fun v3 v4 wx => ∃ (j n : Nat) (A : Option Addr) (c : Nat), j ≤ 8 ∧ v4 = .int .i64 ((j + 1 : Nat) : Int) ∧ v3 = .slice A n c ∧ Hid (n = (encTo a j).length) ∧ n ≤ 100000 ∧ Hid (BxSt w (.int .i64 a.has) (.int .i64 a.origin) vp (.int .u32 (a.hop : Nat)) (.int .u32 (a.med : Nat)) (.int .u32 (a.pref : Nat)) (.int .u32 (a.aas : Nat)) (.int .u32 (a.aid : Nat)) vc (.slice A n c) n (encTo a j) wx)) (fun _ v4 _ => 12 - (intOf v4).toNat)
 case atStart => exact ⟨0, 0, _, _, Nat.zero_le _, rfl, rfl, Go.Lib.hid rfl, Nat.zero_le _, S0⟩
 case round =>
  obtain ⟨j, n, A, c, hj, rfl, rfl, HN, hn, ST⟩ := hrel
  clear S0
  by_cases hlt : j < 8
  ·have z1 : ((j + 1 : Nat) : Int) ≤ 8 := by omega
   obtain ⟨k, hk⟩ : ∃ k, k = j + 1 := ⟨_, rfl⟩
   have HT := Go.Lib.hid (show encTo a k = encTo a j ++ if hasB a.has (k : Int) then attrB a k else [] by rw [hk]; rfl)
   have HLK := Go.Lib.hid (encTo_len HGD.out k)
   have CHK := Go.Lib.hid (fun W => CH.out k W)
   have wk : wrap64 ((k : Int) + 1) = ((k + 1 : Nat) : Int) := by unfold wrap64; omega
   rw [← hk] at z1
   rw [← hk]
   have HK := Go.Lib.hid (show 1 ≤ k ∧ k ≤ 8 from ⟨by omega, by omega⟩)
   obtain ⟨c0, c1, c2, c3, c4, c5, c6, c7, c8⟩ := ST.out.b9.cells
   cases hb : hasB a.has (k : Int) with
   | false =>
    rw [hb] at CHK HT
    clear hb hk
    go_wp2_with (go_at_call 32; refine (CHK.out _).mono ?_; rintro e y ⟨rfl, hy⟩; have S2 := Go.Lib.hid (ST.out.below hy); clear hy c0 c1 c2 c3 c4 c5 c6 c7 c8)
    go_roundw
    case rel =>
     have e : encTo a k = encTo a j := by rw [HT.out, if_neg (by decide), List.append_nil]
     refine ⟨k, n, A, c, HK.out.2, by first | exact congrArg _ wk | go_num, rfl, Go.Lib.hid (by rw [e]; exact HN.out), hn, Go.Lib.hid ?_⟩
     rw [e]
     exact S2.out
    case measure => have h := HK.out; simp [intOf]; omega
   | true =>
    rw [hb] at CHK HT
    have CV := Go.Lib.hid (fun W (h : Below w.heap.size w W) => refValue8 _ a k W (HV.out.keep h) HGD.out HK.out.1 HK.out.2)
    have HVL := Go.Lib.hid (And.intro (valB_len HGD.out k) (valB_small a k))
    have HAT := Go.Lib.hid (show attrB a k = itemB (longF (flagN k) (valB a k).length) k (valB a k) from rfl)
    have HFL := Go.Lib.hid (flagN_is3 HK.out.1 HK.out.2)
    have CF := Go.Lib.hid (fun W => show Calls Tryz.prog 81 #[.int .i64 k] W (Tells (.int .i64 (flagN k : Nat)) W) from by
     have q := refFlags8 (k : Int) W
     rw [flagN_is] at q
     exact q)
    unfold acells at CV
    generalize valB a k = m at CV HVL HAT
    generalize flagN k = f at CF HAT HFL
    have HMN := Go.Lib.hid (show n + 4 + m.length ≤ 200000 by have := HVL.out.1; omega)
    have hml : m.length ≤ 8200 := HVL.out.1
    have hf : f ≤ 192 := by rcases HFL.out with e | e | e <;> omega
    have hk9 : k ≤ 8 := HK.out.2
    have wf : IntKind.u8.wrap (f : Int) = (f : Int) := by rw [IntKind.wrap_u8]; omega
    have wf2 : IntKind.u8.wrap ((f : Int) + 16) = ((f + 16 : Nat) : Int) := by rw [IntKind.wrap_u8]; omega
    have wf3 : wrap64 ((f : Int) + 16) = (f : Int) + 16 := by unfold wrap64; omega
    have wk8 : IntKind.u8.wrap (k : Int) = (k : Int) := by rw [IntKind.wrap_u8]; omega
    have wl : IntKind.u64.wrap (m.length : Int) = (m.length : Int) := by rw [IntKind.wrap_u64]; omega
    clear hb hk
    go_upto_region 7 with (first
     | (go_at_call 32; refine (CHK.out _).mono ?_; rintro e y ⟨rfl, hy⟩; have S1 := Go.Lib.hid (ST.out.below hy); clear hy c0 c1 c2 c3 c4 c5 c6 c7 c8; obtain ⟨c0, c1, c2, c3, c4, c5, c6, c7, c8⟩ := S1.out.b9.cells)
     | (go_at_call 80; refine (CV.out _ S1.out.low).mono ?_; rintro e y ⟨Av, cv, rfl, ho, hy⟩; have S2 := Go.Lib.hid (EnSt.start S1.out hy ho HVL.out.2); clear ho hy S1 c0 c1 c2 c3 c4 c5 c6 c7 c8))
    clear ST
    have CB2 := Go.Lib.hid (fun (W : World) => show Calls Tryz.prog 39 #[.int .u64 (m.length : Nat), .int .i64 2] W (fun e w' => ∃ A c, e = .returned (.slice A 2 c) ∧ w'.ownsRow W.heap.size 5 1 (.slice A 2 c) 2 (cells8 (big m.length 2)) ∧ Below W.heap.size W w') from (big_any m.length 2 W (by omega) (by omega)).mono fun e w' h => by
     obtain ⟨A, c, h1, h2, h3⟩ := h
     rw [big_len] at h1 h2
     exact ⟨A, c, h1, h2, h3⟩)
    have hMN : n + 4 + m.length ≤ 200000 := HMN.out
    by_cases hm : 255 < m.length
    ·have z255 : (255 : Int) < (m.length : Int) := by omega
     have HLF := Go.Lib.hid (show attrB a k = [f + 16, k] ++ (big m.length 2 ++ m) by
      rw [HAT.out]
      unfold longF itemB
      rw [if_pos hm, if_pos (by rcases HFL.out with e | e | e <;> rw [e])]; rfl)
     go_wp2_with (first
      | (go_at_call 81; have tok := S2.out; refine (CF.out _).mono ?_; rintro e y2 ⟨rfl, hy⟩; have S3 := Go.Lib.hid (tok.below hy); clear tok hy S2)
      | (at_builtin; have tok := S3.out.below ((Below.refl _ _).alloc (Nat.le_refl _) (.cells #[.int .u8 (f + 16 : Nat), .int .u8 k] 5)); refine wpList_append_row rfl (.tmp 21) (.tmp 28) rfl E0 (w.heap.size + 1) _ n (cells8 (encTo a j)) rfl tok.b.own _ 2 (cells8 [f + 16, k]) rfl (two8 _ _ _) (ones8 _) (by unfold maxLen; omega) (by omega) tok.b.b9.lt (n + 2) rfl ?_; intro A1 q1 y3 hown hg hat hb; have S4 := Go.Lib.hid (tok.grow (l2 := encTo a j ++ [f + 16, k]) hg hat (by rw [cells8_append]; exact hown)); clear tok hown hg hat hb S3)
      | (go_at_call 39; have tok := S4.out; refine (CB2.out _).mono ?_; rintro e y4 ⟨A2, q2, rfl, hu, hy⟩; have HR := Go.Lib.hid (Row.of_own hu); have S5 := Go.Lib.hid (tok.below hy); clear tok hu hy S4)
      | (at_builtin; have tok := S5.out; refine wpList_append_row rfl (.tmp 29) (.tmp 33) rfl E0 (w.heap.size + 1) _ (n + 2) (cells8 (encTo a j ++ [f + 16, k])) rfl tok.b.own _ 2 (cells8 (big m.length 2)) rfl HR.out (ones8 _) (by unfold maxLen; omega) (by omega) tok.b.b9.lt (n + 4) rfl ?_; intro A3 q3 y5 hown hg hat hb; have S6 := Go.Lib.hid (tok.grow (l2 := encTo a j ++ [f + 16, k] ++ big m.length 2) hg hat (by rw [cells8_append]; exact hown)); clear tok hown hg hat hb S5 HR)
      | (at_builtin; have tok := S6.out; refine wpList_append_row rfl (.tmp 46) (.tmp 47) rfl E0 (w.heap.size + 1) _ (n + 4) (cells8 (encTo a j ++ [f + 16, k] ++ big m.length 2)) rfl tok.b.own _ m.length (cells8 m) rfl tok.u.1 (ones8 _) (by unfold maxLen; omega) (by omega) tok.b.b9.lt (n + 4 + m.length) rfl ?_; intro A4 q4 y6 hown hg hat hb; have S7 := Go.Lib.hid (tok.b.grow (l2 := encTo a j ++ [f + 16, k] ++ big m.length 2 ++ m) hg (by rw [cells8_append]; exact hown)); clear tok hown hg hat hb S6))
     go_roundw
     case rel =>
      have e : encTo a k = encTo a j ++ [f + 16, k] ++ big m.length 2 ++ m := by rw [HT.out, if_pos trivial, HLF.out, List.append_assoc, List.append_assoc]
      refine ⟨k, n + 4 + m.length, A4, q4, HK.out.2, by first | exact congrArg _ wk | go_num, rfl, Go.Lib.hid ?_, ?_, Go.Lib.hid ?_⟩
      ·rw [e]
       simp only [List.length_append, big_len, ← HN.out, List.length_cons, List.length_nil]
      ·have h1 := HLK.out
       rw [e] at h1
       simp only [List.length_append, big_len, ← HN.out, List.length_cons, List.length_nil] at h1
       have h2 := HK.out.2
       omega
      ·rw [e]; exact S7.out
     case measure => have h := HK.out; simp [intOf]; omega
    ·have z255 : decide ((255 : Int) < (m.length : Int)) = false := decide_eq_false (by omega)
     have wl8 : IntKind.u8.wrap (m.length : Int) = (m.length : Int) := by rw [IntKind.wrap_u8]; omega
     have HLF := Go.Lib.hid (show attrB a k = [f, k, m.length] ++ m by
      rw [HAT.out]
      unfold longF itemB
      rw [if_neg hm, if_neg (by rcases HFL.out with e | e | e <;> rw [e] <;> decide)]; rfl)
     go_wp2_with (first
      | (go_at_call 81; have tok := S2.out; refine (CF.out _).mono ?_; rintro e y2 ⟨rfl, hy⟩; have S3 := Go.Lib.hid (tok.below hy); clear tok hy S2)
      | (at_builtin; have tok := S3.out.below ((Below.refl _ _).alloc (Nat.le_refl _) (.cells #[.int .u8 f, .int .u8 k, .int .u8 m.length] 5)); refine wpList_append_row rfl (.tmp 35) (.tmp 44) rfl E0 (w.heap.size + 1) _ n (cells8 (encTo a j)) rfl tok.b.own _ 3 (cells8 [f, k, m.length]) rfl (three8 _ _ _ _) (ones8 _) (by unfold maxLen; omega) (by omega) tok.b.b9.lt (n + 3) rfl ?_; intro A1 q1 y3 hown hg hat hb; have S4 := Go.Lib.hid (tok.grow (l2 := encTo a j ++ [f, k, m.length]) hg hat (by rw [cells8_append]; exact hown)); clear tok hown hg hat hb S3)
      | (at_builtin; have tok := S4.out; refine wpList_append_row rfl (.tmp 46) (.tmp 47) rfl E0 (w.heap.size + 1) _ (n + 3) (cells8 (encTo a j ++ [f, k, m.length])) rfl tok.b.own _ m.length (cells8 m) rfl tok.u.1 (ones8 _) (by unfold maxLen; omega) (by omega) tok.b.b9.lt (n + 3 + m.length) rfl ?_; intro A4 q4 y6 hown hg hat hb; have S7 := Go.Lib.hid (tok.b.grow (l2 := encTo a j ++ [f, k, m.length] ++ m) hg (by rw [cells8_append]; exact hown)); clear tok hown hg hat hb S4))
     go_roundw
     case rel =>
      have e : encTo a k = encTo a j ++ [f, k, m.length] ++ m := by rw [HT.out, if_pos trivial, HLF.out, List.append_assoc]
      refine ⟨k, n + 3 + m.length, A4, q4, HK.out.2, by first | exact congrArg _ wk | go_num, rfl, Go.Lib.hid ?_, ?_, Go.Lib.hid ?_⟩
      ·rw [e]
       simp only [List.length_append, ← HN.out, List.length_cons, List.length_nil]
      ·have h1 := HLK.out
       rw [e] at h1
       simp only [List.length_append, ← HN.out, List.length_cons, List.length_nil] at h1
       have h2 := HK.out.2
       omega
      ·rw [e]; exact S7.out
     case measure => have h := HK.out; simp [intOf]; omega
  ·obtain rfl : j = 8 := by omega
   have z1 : decide (((8 + 1 : Nat) : Int) ≤ 8) = false := rfl
   go_wp2
   go_ret
   exact ⟨A, c, by rw [show encA a = encTo a 8 from rfl, ← HN.out]; rfl, by rw [show encA a = encTo a 8 from rfl, ← HN.out]; exact own_base ST.out.own (Nat.le_succ _), ST.out.low⟩
end Go.Proofs.YtlhdjdnflpilbaaGreatDoor.Att
