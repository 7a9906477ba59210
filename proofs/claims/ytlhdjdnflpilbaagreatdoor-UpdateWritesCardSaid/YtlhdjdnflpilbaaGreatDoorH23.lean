/- Plain mathematics: what is told of ways, as bytes, and what bytes tell. It speaks of no function of the program. Plain mathematics: what is good of a good Update. It speaks of no function of the program. Plain mathematics: what a reader's calls give of an Update's bytes. It speaks of no function of the program. The reference's Good of an Update. -/
import Derived.Test.YtlhdjdnflpilbaaGreatDoorH22
import Derived.Test.YtlhdjdnflpilbaaGreatDoorH15
import Derived.Test.YtlhdjdnflpilbaaGreatDoorH03
import Derived.Test.YtlhdjdnflpilbaaGreatDoorH06
import Derived.Test.YtlhdjdnflpilbaaGreatDoorH12
namespace Go.Proofs.YtlhdjdnflpilbaaGreatDoor.Upd
open Oct Att PR
def wellB (h : Int) : Bool := hasB h 1 && hasB h 2 && hasB h 3
theorem wellN_yes {h : Int} (hw : wellB h = true) : wellN h = ⟨0, 0, []⟩ := by
 unfold wellB at hw
 simp only [Bool.and_eq_true] at hw
 obtain ⟨⟨h1, h2⟩, h3⟩ := hw
 unfold wellN
 rw [if_neg (by rw [h1]; decide), if_neg (by rw [h2]; decide), if_neg (by rw [h3]; decide)]
theorem wellN_no {h : Int} (hw : wellB h = false) : ∃ k : Nat, 1 ≤ k ∧ k ≤ 3 ∧ wellN h = ⟨3, 3, [k]⟩ := by
 unfold wellN
 by_cases h1 : hasB h 1 = false
 ·exact ⟨1, by omega, by omega, if_pos h1⟩
 ·rw [if_neg h1]
  by_cases h2 : hasB h 2 = false
  ·exact ⟨2, by omega, by omega, if_pos h2⟩
  ·rw [if_neg h2]
   by_cases h3 : hasB h 3 = false
   ·exact ⟨3, by omega, by omega, if_pos h3⟩
   ·unfold wellB at hw
    simp only [Bool.not_eq_false] at h1 h2 h3
    rw [h1, h2, h3] at hw
    cases hw
def goodU (u : Up) : Bool := u.gone.all good && u.here.all good && (if u.here = [] then sameA u.at_ zeroA else goodA u.at_ && wellB u.at_.has)
def encU (u : Up) : List Nat := big (encs u.gone).length 2 ++ encs u.gone ++ big (encA u.at_).length 2 ++ encA u.at_ ++ encs u.here
def form1 : No := ⟨3, 1, []⟩
def decU3 (g : List Pf) (a : At) (d : List Nat) : No ⊕ Up := if d = [] then .inr ⟨g, zeroA, []⟩ else if wellB a.has = false then .inl (wellN a.has) else match dec val d with
 | none => .inl ⟨3, 10, []⟩
 | some h => .inr ⟨g, a, h⟩
def decU2 (g : List Pf) (r : No ⊕ At) (d : List Nat) : No ⊕ Up := match r with
 | .inl n => .inl n
 | .inr a => decU3 g a d
def decU1 (g : Option (List Pf)) (c : List Nat) : No ⊕ Up := match g with
 | none => .inl form1
 | some g => if c.length < 2 then .inl form1 else if c.length < 2 + val (c.take 2) then .inl form1 else decU2 g (decodeA ((c.drop 2).take (val (c.take 2)))) (c.drop (2 + val (c.take 2)))
def decU (b : List Nat) : No ⊕ Up := if b.length < 2 then .inl form1 else if b.length < 2 + val (b.take 2) then .inl form1 else decU1 (dec val ((b.drop 2).take (val (b.take 2)))) (b.drop (2 + val (b.take 2)))
def outU : No ⊕ Up → Up × No
 | .inl n => (zeroU, n)
 | .inr u => (u, ⟨0, 0, []⟩)
end Go.Proofs.YtlhdjdnflpilbaaGreatDoor.Upd
namespace Go.Proofs.YtlhdjdnflpilbaaGreatDoor.Upd
open Oct Att PR
theorem good_zeroA : goodA zeroA = true := by decide +kernel
theorem goodU_at {u : Up} (h : goodU u = true) : u.gone.all good = true ∧ u.here.all good = true ∧ goodA u.at_ = true := by
 unfold goodU at h
 simp only [Bool.and_eq_true] at h
 obtain ⟨⟨h1, h2⟩, h3⟩ := h
 refine ⟨h1, h2, ?_⟩
 split at h3
 ·rw [sameA_iff.1 h3]; exact good_zeroA
 ·exact (Bool.and_eq_true _ _ ▸ h3).1
end Go.Proofs.YtlhdjdnflpilbaaGreatDoor.Upd
namespace Go.Proofs.YtlhdjdnflpilbaaGreatDoor.Upd
open Oct Att PR
theorem rest_len (l : List Nat) (b : Bool) (k : Int) : (rest l b k).length ≤ l.length := by
 unfold rest
 split
 ·simp
 ·rw [List.length_drop]; omega
theorem got_len2 (l : List Nat) (b : Bool) (k : Int) : (got l b k).length ≤ l.length := by
 unfold got
 split
 ·simp
 ·rw [List.length_take]; omega
theorem fit_num {l : List Nat} {n : Nat} (h : n ≤ l.length) : (Rd.mk l false).num (n : Nat) = val (l.take n) := by
 unfold Rd.num
 rw [(fit_go h).2]
theorem rd_upd (b : List Nat) (x1 x2 x3 x4 : Rd) (n1 n2 : Nat) (G Q : List Nat) (e1 : x1 = (Rd.mk b false).go 2) (en1 : n1 = (Rd.mk b false).num 2) (e2 : x2 = x1.go n1) (eG : G = got x1.l x1.b n1) (e3 : x3 = x2.go 2) (en2 : n2 = x2.num 2) (e4 : x4 = x3.go n2) (eQ : Q = got x3.l x3.b n2) :
  (x4.b = true → decU b = .inl form1) ∧ (x4.b = false → (dec val G = none → decU b = .inl form1) ∧ ∀ g, dec val G = some g → decU b = decU2 g (decodeA Q) x4.l) := by
 by_cases h1 : b.length < 2
 ·have hx1 : x1.b = true := by rw [e1]; exact (go_short (by omega)).1
  have hx4 : x4.b = true := by rw [e4]; exact go_bad (by rw [e3]; exact go_bad (by rw [e2]; exact go_bad hx1 _) _) _
  exact ⟨fun _ => if_pos h1, fun h => by rw [hx4] at h; cases h⟩
 have f1 := fit_go (l := b) (n := 2) (by omega)
 have g1 := fit_num (l := b) (n := 2) (by omega)
 replace e1 : x1 = ⟨b.drop 2, false⟩ := e1.trans f1.1
 replace en1 : n1 = val (b.take 2) := en1.trans g1
 subst e1
 have hD : decU b = if b.length < 2 + n1 then .inl form1 else decU1 (dec val ((b.drop 2).take n1)) (b.drop (2 + n1)) := by rw [en1]; exact if_neg h1
 clear en1 f1 g1
 by_cases h2 : b.length < 2 + n1
 ·have hx2 : x2.b = true := by rw [e2]; exact (go_short (by rw [List.length_drop]; omega)).1
  have hx4 : x4.b = true := by rw [e4]; exact go_bad (by rw [e3]; exact go_bad hx2 _) _
  exact ⟨fun _ => by rw [hD, if_pos h2], fun h => by rw [hx4] at h; cases h⟩
 rw [if_neg h2] at hD
 have f2 := fit_go (l := b.drop 2) (n := n1) (by rw [List.length_drop]; omega)
 replace e2 : x2 = ⟨b.drop (2 + n1), false⟩ := e2.trans (f2.1.trans (by rw [List.drop_drop]))
 replace eG : G = (b.drop 2).take n1 := eG.trans f2.2
 subst e2
 rw [← eG] at hD
 clear f2 eG
 obtain ⟨C, hC⟩ : ∃ C, C = b.drop (2 + n1) := ⟨_, rfl⟩
 rw [← hC] at e3 en2 hD
 cases hg : dec val G with
 | none =>
  have hd : decU b = .inl form1 := by rw [hD, hg]; rfl
  exact ⟨fun _ => hd, fun _ => ⟨fun _ => hd, fun g h => by cases h⟩⟩
 | some g =>
 rw [hg] at hD
 by_cases h3 : C.length < 2
 ·have hx3 : x3.b = true := by rw [e3]; exact (go_short (by omega)).1
  have hx4 : x4.b = true := by rw [e4]; exact go_bad hx3 _
  exact ⟨fun _ => by rw [hD]; exact if_pos h3, fun h => by rw [hx4] at h; cases h⟩
 have f3 := fit_go (l := C) (n := 2) (by omega)
 have g3 := fit_num (l := C) (n := 2) (by omega)
 replace e3 : x3 = ⟨C.drop 2, false⟩ := e3.trans f3.1
 replace en2 : n2 = val (C.take 2) := en2.trans g3
 subst e3
 have hD2 : decU b = if C.length < 2 + n2 then .inl form1 else decU2 g (decodeA ((C.drop 2).take n2)) (C.drop (2 + n2)) := by rw [hD, en2]; exact if_neg h3
 clear f3 g3 en2 hD
 by_cases h4 : C.length < 2 + n2
 ·have hx4 : x4.b = true := by rw [e4]; exact (go_short (by rw [List.length_drop]; omega)).1
  exact ⟨fun _ => by rw [hD2, if_pos h4], fun h => by rw [hx4] at h; cases h⟩
 rw [if_neg h4] at hD2
 have f4 := fit_go (l := C.drop 2) (n := n2) (by rw [List.length_drop]; omega)
 replace e4 : x4 = ⟨C.drop (2 + n2), false⟩ := e4.trans (f4.1.trans (by rw [List.drop_drop]))
 replace eQ : Q = (C.drop 2).take n2 := eQ.trans f4.2
 subst e4
 rw [← eQ] at hD2
 refine ⟨fun h => (by cases h), fun _ => ⟨fun h => (by cases h), fun g' h => ?_⟩⟩
 injection h with h
 rw [← h]
 exact hD2
end Go.Proofs.YtlhdjdnflpilbaaGreatDoor.Upd
namespace Go.Proofs.YtlhdjdnflpilbaaGreatDoor.Upd
open Go.RowKit Mem Segm Oct Att Seg PR
set_option maxRecDepth 100000 in
set_option maxHeartbeats 4000000 in
theorem rgood_any (va : Value) (a : Up) (w : World) (ha : Upds w va a) (hbk : bulk a.at_.path ≤ 50000) (hln : lens a.at_.path ≤ 100000) (hfit : FitS 1000 a.at_.path) (hcl : a.at_.comms.length ≤ 1000) : Calls Tryz.prog 8 #[va] w (Tells (.bool (goodU a)) w) := by
 obtain ⟨vg, vp, vc, vh, rfl, hg, ht, hh⟩ := ha
 obtain ⟨ag, a, ah⟩ := a
 dsimp only at hg ht hh hbk hln hfit hcl ⊢
 have C1 := Go.Lib.hid (fun W (h : Below w.heap.size w W) => refGoods_any vg _ W (hg.keep h))
 have C2 := Go.Lib.hid (fun W (h : Below w.heap.size w W) => refGoods_any vh _ W (hh.keep h))
 have C3 := Go.Lib.hid (fun W (h : Below w.heap.size w W) => refSame8 _ _ _ _ W (ht.keep h) (attrs_zero W))
 have C4 := Go.Lib.hid (fun W (h : Below w.heap.size w W) => refGood8 _ _ W (ht.keep h) hbk hln hfit hcl)
 have H1 := Go.Lib.hid (fun W => refHas8 a.has 1 (.int .i64 a.origin) vp (.int .u32 (a.hop : Nat)) (.int .u32 (a.med : Nat)) (.int .u32 (a.pref : Nat)) (.int .u32 (a.aas : Nat)) (.int .u32 (a.aid : Nat)) vc W)
 have H2 := Go.Lib.hid (fun W => refHas8 a.has 2 (.int .i64 a.origin) vp (.int .u32 (a.hop : Nat)) (.int .u32 (a.med : Nat)) (.int .u32 (a.pref : Nat)) (.int .u32 (a.aas : Nat)) (.int .u32 (a.aid : Nat)) vc W)
 have H3 := Go.Lib.hid (fun W => refHas8 a.has 3 (.int .i64 a.origin) vp (.int .u32 (a.hop : Nat)) (.int .u32 (a.med : Nat)) (.int .u32 (a.pref : Nat)) (.int .u32 (a.aas : Nat)) (.int .u32 (a.aid : Nat)) vc W)
 obtain ⟨A, c, rfl, hlc, hc⟩ := hh.form
 unfold goodU wellB
 dsimp only
 unfold aV at C3 C4
 generalize ag.all good = b1 at C1 ⊢
 generalize ah.all good = b2 at C2 ⊢
 generalize sameA a zeroA = b3 at C3 ⊢
 generalize goodA a = b4 at C4 ⊢
 generalize hasB a.has 1 = e1 at H1 ⊢
 generalize hasB a.has 2 = e2 at H2 ⊢
 generalize hasB a.has 3 = e3 at H3 ⊢
 have S0 := Go.Lib.hid (And.intro (BoxU.new w 29 a vg vp vc (.slice A ah.length c)) ((Below.refl w.heap.size w).alloc (Nat.le_refl _) (.cells #[vg, .int .i64 a.has, .int .i64 a.origin, vp, .int .u32 a.hop, .int .u32 a.med, .int .u32 a.pref, .int .u32 a.aas, .int .u32 a.aid, vc, (.slice A ah.length c)] 29)))
 obtain ⟨p0, p1, p2, p3, p4, p5, p6, p7, p8, p9, p10⟩ := S0.out.1.cells
 unfold uV
 clear hg ht hh hbk hln hfit hcl
 cases b1 with
 | false =>
  simp only [Bool.false_and]
  go_enter Tryz.func8, Tryz.ntmps8
  go_wp2_with (first
   | (have tok := S0.out; go_at_call 29; (refine (C1.out _ S0.out.2).mono ?_; rintro e x ⟨rfl, hb⟩; have S1 := Go.Lib.hid (And.intro (S0.out.1.keep hb) (S0.out.2.trans (hb.mono S0.out.2.size))); clear hb tok S0; clear p0 p1 p2 p3 p4 p5 p6 p7 p8 p9 p10; obtain ⟨p0, p1, p2, p3, p4, p5, p6, p7, p8, p9, p10⟩ := S1.out.1.cells)))
  go_ret
  exact ⟨rfl, S1.out.2⟩
 | true =>
 cases b2 with
 | false =>
  simp only [Bool.and_false, Bool.false_and]
  go_enter Tryz.func8, Tryz.ntmps8
  go_wp2_with (first
   | (have tok := S0.out; go_at_call 29; (refine (C1.out _ S0.out.2).mono ?_; rintro e x ⟨rfl, hb⟩; have S1 := Go.Lib.hid (And.intro (S0.out.1.keep hb) (S0.out.2.trans (hb.mono S0.out.2.size))); clear hb tok S0; clear p0 p1 p2 p3 p4 p5 p6 p7 p8 p9 p10; obtain ⟨p0, p1, p2, p3, p4, p5, p6, p7, p8, p9, p10⟩ := S1.out.1.cells))
   | (have tok := S1.out; go_at_call 29; (refine (C2.out _ S1.out.2).mono ?_; rintro e x ⟨rfl, hb⟩; have S2 := Go.Lib.hid (And.intro (S1.out.1.keep hb) (S1.out.2.trans (hb.mono S1.out.2.size))); clear hb tok S1; clear p0 p1 p2 p3 p4 p5 p6 p7 p8 p9 p10; obtain ⟨p0, p1, p2, p3, p4, p5, p6, p7, p8, p9, p10⟩ := S2.out.1.cells)))
  go_ret
  exact ⟨rfl, S2.out.2⟩
 | true =>
 simp only [Bool.true_and]
 by_cases hz : ah = []
 ·have zl : ((ah.length : Nat) : Int) = 0 := by rw [hz]; rfl
  have y1 : ((ah.length : Int) == 0) = true := by simp [hz]
  rw [if_pos hz]
  clear hz zl
  go_enter Tryz.func8, Tryz.ntmps8
  go_wp2_with (first
   | (have tok := S0.out; go_at_call 29; (refine (C1.out _ S0.out.2).mono ?_; rintro e x ⟨rfl, hb⟩; have S1 := Go.Lib.hid (And.intro (S0.out.1.keep hb) (S0.out.2.trans (hb.mono S0.out.2.size))); clear hb tok S0; clear p0 p1 p2 p3 p4 p5 p6 p7 p8 p9 p10; obtain ⟨p0, p1, p2, p3, p4, p5, p6, p7, p8, p9, p10⟩ := S1.out.1.cells))
   | (have tok := S1.out; go_at_call 29; (refine (C2.out _ S1.out.2).mono ?_; rintro e x ⟨rfl, hb⟩; have S2 := Go.Lib.hid (And.intro (S1.out.1.keep hb) (S1.out.2.trans (hb.mono S1.out.2.size))); clear hb tok S1; clear p0 p1 p2 p3 p4 p5 p6 p7 p8 p9 p10; obtain ⟨p0, p1, p2, p3, p4, p5, p6, p7, p8, p9, p10⟩ := S2.out.1.cells))
   | (have tok := S2.out; go_at_call 30; (refine (C3.out _ S2.out.2).mono ?_; rintro e x ⟨rfl, hb⟩; have S3 := Go.Lib.hid (And.intro (S2.out.1.keep hb) (S2.out.2.trans (hb.mono S2.out.2.size))); clear hb tok S2; clear p0 p1 p2 p3 p4 p5 p6 p7 p8 p9 p10; obtain ⟨p0, p1, p2, p3, p4, p5, p6, p7, p8, p9, p10⟩ := S3.out.1.cells)))
  go_ret
  exact ⟨rfl, S3.out.2⟩
 ·have y1 : ((ah.length : Int) == 0) = false := by simpa using hz
  rw [if_neg hz]
  clear hz
  cases b4 with
  | false =>
   simp only [Bool.false_and]
   go_enter Tryz.func8, Tryz.ntmps8
   go_wp2_with (first
    | (have tok := S0.out; go_at_call 29; (refine (C1.out _ S0.out.2).mono ?_; rintro e x ⟨rfl, hb⟩; have S1 := Go.Lib.hid (And.intro (S0.out.1.keep hb) (S0.out.2.trans (hb.mono S0.out.2.size))); clear hb tok S0; clear p0 p1 p2 p3 p4 p5 p6 p7 p8 p9 p10; obtain ⟨p0, p1, p2, p3, p4, p5, p6, p7, p8, p9, p10⟩ := S1.out.1.cells))
    | (have tok := S1.out; go_at_call 29; (refine (C2.out _ S1.out.2).mono ?_; rintro e x ⟨rfl, hb⟩; have S2 := Go.Lib.hid (And.intro (S1.out.1.keep hb) (S1.out.2.trans (hb.mono S1.out.2.size))); clear hb tok S1; clear p0 p1 p2 p3 p4 p5 p6 p7 p8 p9 p10; obtain ⟨p0, p1, p2, p3, p4, p5, p6, p7, p8, p9, p10⟩ := S2.out.1.cells))
    | (have tok := S2.out; go_at_call 31; (refine (C4.out _ S2.out.2).mono ?_; rintro e x ⟨rfl, hb⟩; have S3 := Go.Lib.hid (And.intro (S2.out.1.keep hb) (S2.out.2.trans (hb.mono S2.out.2.size))); clear hb tok S2; clear p0 p1 p2 p3 p4 p5 p6 p7 p8 p9 p10; obtain ⟨p0, p1, p2, p3, p4, p5, p6, p7, p8, p9, p10⟩ := S3.out.1.cells)))
   go_ret
   exact ⟨rfl, S3.out.2⟩
  | true =>
  cases e1 with
  | false =>
   simp only [Bool.false_and, Bool.and_false]
   go_enter Tryz.func8, Tryz.ntmps8
   go_wp2_with (first
    | (have tok := S0.out; go_at_call 29; (refine (C1.out _ S0.out.2).mono ?_; rintro e x ⟨rfl, hb⟩; have S1 := Go.Lib.hid (And.intro (S0.out.1.keep hb) (S0.out.2.trans (hb.mono S0.out.2.size))); clear hb tok S0; clear p0 p1 p2 p3 p4 p5 p6 p7 p8 p9 p10; obtain ⟨p0, p1, p2, p3, p4, p5, p6, p7, p8, p9, p10⟩ := S1.out.1.cells))
    | (have tok := S1.out; go_at_call 29; (refine (C2.out _ S1.out.2).mono ?_; rintro e x ⟨rfl, hb⟩; have S2 := Go.Lib.hid (And.intro (S1.out.1.keep hb) (S1.out.2.trans (hb.mono S1.out.2.size))); clear hb tok S1; clear p0 p1 p2 p3 p4 p5 p6 p7 p8 p9 p10; obtain ⟨p0, p1, p2, p3, p4, p5, p6, p7, p8, p9, p10⟩ := S2.out.1.cells))
    | (have tok := S2.out; go_at_call 31; (refine (C4.out _ S2.out.2).mono ?_; rintro e x ⟨rfl, hb⟩; have S3 := Go.Lib.hid (And.intro (S2.out.1.keep hb) (S2.out.2.trans (hb.mono S2.out.2.size))); clear hb tok S2; clear p0 p1 p2 p3 p4 p5 p6 p7 p8 p9 p10; obtain ⟨p0, p1, p2, p3, p4, p5, p6, p7, p8, p9, p10⟩ := S3.out.1.cells))
    | (have tok := S3.out; go_at_call 32; (refine (H1.out _).mono ?_; rintro e x ⟨rfl, hb⟩; have S4 := Go.Lib.hid (And.intro (S3.out.1.keep hb) (S3.out.2.trans (hb.mono S3.out.2.size))); clear hb tok S3; clear p0 p1 p2 p3 p4 p5 p6 p7 p8 p9 p10; obtain ⟨p0, p1, p2, p3, p4, p5, p6, p7, p8, p9, p10⟩ := S4.out.1.cells)))
   go_ret
   exact ⟨rfl, S4.out.2⟩
  | true =>
  cases e2 with
  | false =>
   simp only [Bool.false_and, Bool.and_false]
   go_enter Tryz.func8, Tryz.ntmps8
   go_wp2_with (first
    | (have tok := S0.out; go_at_call 29; (refine (C1.out _ S0.out.2).mono ?_; rintro e x ⟨rfl, hb⟩; have S1 := Go.Lib.hid (And.intro (S0.out.1.keep hb) (S0.out.2.trans (hb.mono S0.out.2.size))); clear hb tok S0; clear p0 p1 p2 p3 p4 p5 p6 p7 p8 p9 p10; obtain ⟨p0, p1, p2, p3, p4, p5, p6, p7, p8, p9, p10⟩ := S1.out.1.cells))
    | (have tok := S1.out; go_at_call 29; (refine (C2.out _ S1.out.2).mono ?_; rintro e x ⟨rfl, hb⟩; have S2 := Go.Lib.hid (And.intro (S1.out.1.keep hb) (S1.out.2.trans (hb.mono S1.out.2.size))); clear hb tok S1; clear p0 p1 p2 p3 p4 p5 p6 p7 p8 p9 p10; obtain ⟨p0, p1, p2, p3, p4, p5, p6, p7, p8, p9, p10⟩ := S2.out.1.cells))
    | (have tok := S2.out; go_at_call 31; (refine (C4.out _ S2.out.2).mono ?_; rintro e x ⟨rfl, hb⟩; have S3 := Go.Lib.hid (And.intro (S2.out.1.keep hb) (S2.out.2.trans (hb.mono S2.out.2.size))); clear hb tok S2; clear p0 p1 p2 p3 p4 p5 p6 p7 p8 p9 p10; obtain ⟨p0, p1, p2, p3, p4, p5, p6, p7, p8, p9, p10⟩ := S3.out.1.cells))
    | (have tok := S3.out; go_at_call 32; (refine (H1.out _).mono ?_; rintro e x ⟨rfl, hb⟩; have S4 := Go.Lib.hid (And.intro (S3.out.1.keep hb) (S3.out.2.trans (hb.mono S3.out.2.size))); clear hb tok S3; clear p0 p1 p2 p3 p4 p5 p6 p7 p8 p9 p10; obtain ⟨p0, p1, p2, p3, p4, p5, p6, p7, p8, p9, p10⟩ := S4.out.1.cells))
    | (have tok := S4.out; go_at_call 32; (refine (H2.out _).mono ?_; rintro e x ⟨rfl, hb⟩; have S5 := Go.Lib.hid (And.intro (S4.out.1.keep hb) (S4.out.2.trans (hb.mono S4.out.2.size))); clear hb tok S4; clear p0 p1 p2 p3 p4 p5 p6 p7 p8 p9 p10; obtain ⟨p0, p1, p2, p3, p4, p5, p6, p7, p8, p9, p10⟩ := S5.out.1.cells)))
   go_ret
   exact ⟨rfl, S5.out.2⟩
  | true =>
  simp only [Bool.true_and]
  cases e3 <;> (go_enter Tryz.func8, Tryz.ntmps8; go_wp2_with (first | (have tok := S0.out; go_at_call 29; (refine (C1.out _ S0.out.2).mono ?_; rintro e x ⟨rfl, hb⟩; have S1 := Go.Lib.hid (And.intro (S0.out.1.keep hb) (S0.out.2.trans (hb.mono S0.out.2.size))); clear hb tok S0; clear p0 p1 p2 p3 p4 p5 p6 p7 p8 p9 p10; obtain ⟨p0, p1, p2, p3, p4, p5, p6, p7, p8, p9, p10⟩ := S1.out.1.cells)) | (have tok := S1.out; go_at_call 29; (refine (C2.out _ S1.out.2).mono ?_; rintro e x ⟨rfl, hb⟩; have S2 := Go.Lib.hid (And.intro (S1.out.1.keep hb) (S1.out.2.trans (hb.mono S1.out.2.size))); clear hb tok S1; clear p0 p1 p2 p3 p4 p5 p6 p7 p8 p9 p10; obtain ⟨p0, p1, p2, p3, p4, p5, p6, p7, p8, p9, p10⟩ := S2.out.1.cells)) | (have tok := S2.out; go_at_call 31; (refine (C4.out _ S2.out.2).mono ?_; rintro e x ⟨rfl, hb⟩; have S3 := Go.Lib.hid (And.intro (S2.out.1.keep hb) (S2.out.2.trans (hb.mono S2.out.2.size))); clear hb tok S2; clear p0 p1 p2 p3 p4 p5 p6 p7 p8 p9 p10; obtain ⟨p0, p1, p2, p3, p4, p5, p6, p7, p8, p9, p10⟩ := S3.out.1.cells)) | (have tok := S3.out; go_at_call 32; (refine (H1.out _).mono ?_; rintro e x ⟨rfl, hb⟩; have S4 := Go.Lib.hid (And.intro (S3.out.1.keep hb) (S3.out.2.trans (hb.mono S3.out.2.size))); clear hb tok S3; clear p0 p1 p2 p3 p4 p5 p6 p7 p8 p9 p10; obtain ⟨p0, p1, p2, p3, p4, p5, p6, p7, p8, p9, p10⟩ := S4.out.1.cells)) | (have tok := S4.out; go_at_call 32; (refine (H2.out _).mono ?_; rintro e x ⟨rfl, hb⟩; have S5 := Go.Lib.hid (And.intro (S4.out.1.keep hb) (S4.out.2.trans (hb.mono S4.out.2.size))); clear hb tok S4; clear p0 p1 p2 p3 p4 p5 p6 p7 p8 p9 p10; obtain ⟨p0, p1, p2, p3, p4, p5, p6, p7, p8, p9, p10⟩ := S5.out.1.cells)) | (have tok := S5.out; go_at_call 32; (refine (H3.out _).mono ?_; rintro e x ⟨rfl, hb⟩; have S6 := Go.Lib.hid (And.intro (S5.out.1.keep hb) (S5.out.2.trans (hb.mono S5.out.2.size))); clear hb tok S5; clear p0 p1 p2 p3 p4 p5 p6 p7 p8 p9 p10; obtain ⟨p0, p1, p2, p3, p4, p5, p6, p7, p8, p9, p10⟩ := S6.out.1.cells))); go_ret; exact ⟨rfl, S6.out.2⟩)
end Go.Proofs.YtlhdjdnflpilbaaGreatDoor.Upd
