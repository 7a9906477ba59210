/- CommTexts: the law's walk: the text of any community, and which texts are one's. -/
import Derived.Test.YtdgfnnjcpoklfaaDoorCommParse
import Derived.Test.YtdgfnnjcpoklfaaDoorPiece
namespace Go.Proofs.YtdgfnnjcpoklfaaDoor.Com
open Go.RowKit Go.Sort Mem Rise Pfx Dec Nums

theorem refText_exp (w : World) : Calls Tryd.prog 27 #[.int .u32 4294967041] w fun e w' => e = .returned (.string (strOf nExp)) ∧ w = w' := by
  go_enter Tryd.func27, Tryd.ntmps27
  go_wp2
  go_ret
  exact ⟨rfl, rfl⟩
theorem refText_adv (w : World) : Calls Tryd.prog 27 #[.int .u32 4294967042] w fun e w' => e = .returned (.string (strOf nAdv)) ∧ w = w' := by
  go_enter Tryd.func27, Tryd.ntmps27
  go_wp2
  go_ret
  exact ⟨rfl, rfl⟩
theorem refText_sub (w : World) : Calls Tryd.prog 27 #[.int .u32 4294967043] w fun e w' => e = .returned (.string (strOf nSub)) ∧ w = w' := by
  go_enter Tryd.func27, Tryd.ntmps27
  go_wp2
  go_ret
  exact ⟨rfl, rfl⟩
set_option maxHeartbeats 1000000 in
theorem refText_half (c : Nat) (hc : c < 4294967296) (h1 : c ≠ 4294967041) (h2 : c ≠ 4294967042) (h3 : c ≠ 4294967043) (w : World) :
    Calls Tryd.prog 27 #[.int .u32 c] w fun e w' => e = .returned (.string (strOf (halfT c))) ∧ w = w' := by
  unfold halfT
  have q1 := num_all (c / 65536) (by omega)
  rw [show ((c / 65536 : Nat) : Int) = (c : Int) / 65536 by omega] at q1
  have q2 := num_all (c % 65536) (by omega)
  rw [show ((c % 65536 : Nat) : Int) = (c : Int) % 65536 by omega] at q2
  have l1 := Dec.dec_len (c / 65536) 5 (by omega) (by omega)
  have l2 := Dec.dec_len (c % 65536) 5 (by omega) (by omega)
  have s1 : ¬ 9223372036854775807 < (strOf (dec (c / 65536))).size + 1 := by rw [strOf_size]; omega
  have s2 : ¬ 9223372036854775807 < (strOf (dec (c / 65536))).size + 1 + (strOf (dec (c % 65536))).size := by rw [strOf_size, strOf_size]; omega
  generalize dec (c / 65536) = hi at q1 s1 s2 ⊢
  generalize dec (c % 65536) = lo at q2 s2 ⊢
  have hE : strOf hi ++ ⟨#[58]⟩ ++ strOf lo = strOf (hi ++ 58 :: lo) := by
    rw [show (⟨#[58]⟩ : ByteArray) = strOf [58] from rfl, strOf_append, strOf_append]; simp
  have HE := Go.Lib.hid hE
  have t1 : ((c : Int) == 4294967041) = false := by simp; omega
  have t2 : ((c : Int) == 4294967042) = false := by simp; omega
  have t3 : ((c : Int) == 4294967043) = false := by simp; omega
  have C1 := Go.Lib.hid q1
  have C2 := Go.Lib.hid q2
  clear q1 q2 h1 h2 h3 l1 l2 hE
  go_enter Tryd.func27, Tryd.ntmps27
  go_wp2_with fail
  refine (C1.out _).mono ?_
  rintro e w1 ⟨rfl, rfl⟩
  go_wp2_with fail
  refine (C2.out _).mono ?_
  rintro e w1 ⟨rfl, rfl⟩
  go_wp2
  go_ret
  exact ⟨by rw [← HE.out]; rfl, rfl⟩
/-- The reference's text. -/
theorem refText_any (c : Nat) (hc : c < 4294967296) (w : World) : Calls Tryd.prog 27 #[.int .u32 c] w fun e w' => e = .returned (.string (strOf (ctext c))) ∧ w = w' := by
  rcases ctext_cases c with ⟨h, e⟩ | ⟨h, e⟩ | ⟨h, e⟩ | ⟨⟨h1, h2, h3⟩, e⟩ <;> rw [e]
  · subst h; exact refText_exp w
  · subst h; exact refText_adv w
  · subst h; exact refText_sub w
  · exact refText_half c hc h1 h2 h3 w

set_option maxRecDepth 100000 in
set_option maxHeartbeats 2000000 in
theorem texts_none (c : Nat) (s S T : ByteArray) (w : World) (hs : (s.size ≤ 40 ∧ s = S) ∨ (40 < s.size ∧ s.extract 0 40 = S)) (HT : Hid (Powers w)) (HV : Hid (ErrVars w))
    (CT : Hid (∀ W, Powers W → Calls Tryd.prog 25 #[.int .u32 c] W (Tells (.string T) W)))
    (CP : Hid (∀ W, Powers W → ErrVars W → Calls Tryd.prog 26 #[.string T] W (Tells (.tuple #[.int .u32 c, .int .i64 0]) W)))
    (CQ : Hid (∀ W, Powers W → ErrVars W → Calls Tryd.prog 26 #[.string S] W (Tells (.tuple #[.int .u32 0, .int .i64 2]) W)))
    (CR : Hid (∀ W, Calls Tryd.prog 27 #[.int .u32 c] W fun e w' => e = .returned (.string T) ∧ W = w'))
    (t : (S.toList == T.toList) = false) :
    Calls Tryd.prog 5 #[.int .u32 c, .string s] w (Tells (.bool true) w) := by
  have CL := Go.Lib.hid lives_any
  rcases hs with ⟨hs, rfl⟩ | ⟨hs, hx⟩
  all_goals first | have k40 : ¬ (40 : Int) < (s.size : Int) := (by omega) | have k40 : (40 : Int) < (s.size : Int) := (by omega)
  all_goals
    go_enter Tryd.func5, Tryd.ntmps5
    go_wp2_with fail
    refine (CT.out _ HT.out).mono ?_
    rintro e w1 ⟨rfl, hb1⟩
    have HT1 := Go.Lib.hid (tab_below HT.out hb1)
    have HV1 := Go.Lib.hid ((HV.out).keep hb1)
    go_wp2_with fail
    refine (CP.out _ HT1.out HV1.out).mono ?_
    rintro e w2 ⟨rfl, hb2⟩
    have HT2 := Go.Lib.hid (tab_below HT1.out hb2)
    have HV2 := Go.Lib.hid ((HV1.out).keep hb2)
    go_wp2_with fail
    refine (CQ.out _ HT2.out HV2.out).mono ?_
    rintro e w3 ⟨rfl, hb3⟩
    have HT3 := Go.Lib.hid (tab_below HT2.out hb3)
    go_wp2_with fail
    refine (CR.out _).mono ?_
    rintro e w4 ⟨rfl, rfl⟩
    go_wp2_with fail
    refine (CR.out _).mono ?_
    rintro e w4 ⟨rfl, rfl⟩
    go_wp2_with fail
    refine (CL.out _ HT3.out).mono ?_
    rintro e w5 ⟨rfl, hb5⟩
    go_wp2
    go_ret
    exact ⟨rfl, Below.tr (Below.tr (Below.tr hb1 hb2) hb3) hb5⟩

set_option maxRecDepth 100000 in
set_option maxHeartbeats 2000000 in
theorem texts_some (c y : Nat) (s S T : ByteArray) (w : World) (hs : (s.size ≤ 40 ∧ s = S) ∨ (40 < s.size ∧ s.extract 0 40 = S)) (HT : Hid (Powers w)) (HV : Hid (ErrVars w))
    (CT : Hid (∀ W, Powers W → Calls Tryd.prog 25 #[.int .u32 c] W (Tells (.string T) W)))
    (CP : Hid (∀ W, Powers W → ErrVars W → Calls Tryd.prog 26 #[.string T] W (Tells (.tuple #[.int .u32 c, .int .i64 0]) W)))
    (CQ : Hid (∀ W, Powers W → ErrVars W → Calls Tryd.prog 26 #[.string S] W (Tells (.tuple #[.int .u32 y, .int .i64 0]) W)))
    (CR : Hid (∀ W, Calls Tryd.prog 27 #[.int .u32 c] W fun e w' => e = .returned (.string T) ∧ W = w'))
    (CS : Hid (∀ W, Calls Tryd.prog 27 #[.int .u32 y] W fun e w' => e = .returned (.string S) ∧ W = w')) :
    Calls Tryd.prog 5 #[.int .u32 c, .string s] w (Tells (.bool true) w) := by
  have CL := Go.Lib.hid lives_any
  rcases hs with ⟨hs, rfl⟩ | ⟨hs, hx⟩
  all_goals first | have k40 : ¬ (40 : Int) < (s.size : Int) := (by omega) | have k40 : (40 : Int) < (s.size : Int) := (by omega)
  all_goals
    go_enter Tryd.func5, Tryd.ntmps5
    go_wp2_with fail
    refine (CT.out _ HT.out).mono ?_
    rintro e w1 ⟨rfl, hb1⟩
    have HT1 := Go.Lib.hid (tab_below HT.out hb1)
    have HV1 := Go.Lib.hid ((HV.out).keep hb1)
    go_wp2_with fail
    refine (CP.out _ HT1.out HV1.out).mono ?_
    rintro e w2 ⟨rfl, hb2⟩
    have HT2 := Go.Lib.hid (tab_below HT1.out hb2)
    have HV2 := Go.Lib.hid ((HV1.out).keep hb2)
    go_wp2_with fail
    refine (CQ.out _ HT2.out HV2.out).mono ?_
    rintro e w3 ⟨rfl, hb3⟩
    have HT3 := Go.Lib.hid (tab_below HT2.out hb3)
    go_wp2_with fail
    refine (CR.out _).mono ?_
    rintro e w4 ⟨rfl, rfl⟩
    go_wp2_with fail
    refine (CS.out _).mono ?_
    rintro e w4 ⟨rfl, rfl⟩
    go_wp2_with fail
    refine (CL.out _ HT3.out).mono ?_
    rintro e w5 ⟨rfl, hb5⟩
    go_wp2
    go_ret
    exact ⟨rfl, Below.tr (Below.tr (Below.tr hb1 hb2) hb3) hb5⟩

theorem texts_walk (c : Nat) (s : ByteArray) (w : World) (hc : c < 4294967296) (hv : ErrVars w) (hT : Powers w) :
    Calls Tryd.prog 5 #[.int .u32 c, .string s] w (Tells (.bool true) w) := by
  obtain ⟨p, hp, hs⟩ := piece s 40
  have lt := ctext_len hc
  have CT := Go.Lib.hid (fun W (h : Powers W) => text_any c hc W h)
  have CP := Go.Lib.hid (fun W (h : Powers W) (h2 : ErrVars W) => (congrArg creadV (cread_text hc)) ▸ parse_any (ctext c) (by omega) W h h2)
  have CR := Go.Lib.hid (refText_any c hc)
  cases hr : cread p with
  | none =>
    have CQ := Go.Lib.hid (fun W (h : Powers W) (h2 : ErrVars W) => (congrArg creadV hr) ▸ parse_any p (by omega) W h h2)
    have hne : p ≠ ctext c := fun e => by rw [e, cread_text hc] at hr; cases hr
    exact texts_none c s (strOf p) (strOf (ctext c)) w hs (Go.Lib.hid hT) (Go.Lib.hid hv) CT CP CQ CR ((str_eq p (ctext c)).trans (decide_eq_false hne))
  | some y =>
    obtain ⟨hy, hy2⟩ := cread_sound hr
    have CQ := Go.Lib.hid (fun W (h : Powers W) (h2 : ErrVars W) => (congrArg creadV hr) ▸ parse_any p (by omega) W h h2)
    have CS := Go.Lib.hid (refText_any y hy2)
    rw [← hy] at CS
    exact texts_some c y s (strOf p) (strOf (ctext c)) w hs (Go.Lib.hid hT) (Go.Lib.hid hv) CT CP CQ CR CS
end Go.Proofs.YtdgfnnjcpoklfaaDoor.Com
