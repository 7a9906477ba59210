/- comm's named, halves and Parse. -/
import Derived.Test.YtdgfnnjcpoklfaaDoorComm
import Derived.Test.YtdgfnnjcpoklfaaDoorErrVars
namespace Go.Proofs.YtdgfnnjcpoklfaaDoor.Com
open Go.RowKit Go.Sort Mem Rise Pfx Dec Nums

/-- ParseUint(s, 10, 16): the number and no error, or an error. -/
def Got16 (r : Option Nat) (w : World) (e : Ending) (w' : World) : Prop :=
  (match r with
  | some u => e = .returned (.tuple #[.int .u64 u, .nilIface])
  | none => ∃ u N : Nat, e = .returned (.tuple #[.int .u64 u, .iface 105 (.pointer (some ⟨N, 0, none⟩))])) ∧ RowKit.Below w.heap.size w w'
theorem parseUint_any (l : List UInt8) (hlen : l.length ≤ 1000000) (w : World) (hv : ErrVars w) :
    Calls Tryd.prog 56 #[.string (strOf l), .int .i64 10, .int .i64 16] w (Got16 (num16 l) w) := by
  obtain ⟨⟨t1, p1, h1⟩, ⟨t2, p2, h2⟩, _⟩ := hv
  have e : (strOf l).data.toList = l := by simp [strOf]
  unfold num16
  rcases hp : Lib.parseUintB 16 l with u | _ | _
  · refine (Tryd.strconv_ParseUint_10_at16_ok (strOf l) (by rw [strOf_size]; omega) u (by simpa [strOf] using hp) w).mono fun e w' ⟨he, hw⟩ => ⟨he, ?_⟩
    rcases hw with rfl | rfl
    · exact Below.refl _ _
    · exact ⟨rfl, rfl, rfl, by rw [Lib.bytesWorld_size]; omega, fun k hk => Lib.bytesWorld_at_old w _ _ k hk⟩
  · exact (Any.strconv_ParseUint_10_at16_syntax_var Tryd.laysPu14 (strOf l) (by rw [strOf_size]; omega) (by rw [e]; exact hp) t1 p1 w h1).mono fun e w' ⟨N, he, _, _, hb⟩ => ⟨⟨0, N, he⟩, hb⟩
  · exact (Any.strconv_ParseUint_10_at16_range_var Tryd.laysPu14 (strOf l) (by rw [strOf_size]; omega) (by rw [e]; exact hp) t2 p2 w h2).mono fun e w' ⟨N, he, _, _, hb⟩ => ⟨⟨65535, N, he⟩, hb⟩

theorem cut_at (c : UInt8) (l : List UInt8) {a b : List UInt8} {r : Bool} (h : Lib.cut l [c] = (a, b, r)) (hlen : l.length ≤ 1000000) (w : World) (hv : ErrVars w) :
    Calls Tryd.prog 55 #[.string (strOf l), .string ⟨#[c]⟩] w (Tells (.tuple #[.string (strOf a), .string (strOf b), .bool r]) w) := by
  obtain ⟨m, hm⟩ := hv.top
  refine (Tryd.strings_Cut (strOf l) ⟨#[c]⟩ m w (by rw [strOf_size]; omega) hm).mono fun e w' ⟨he, n, hw⟩ => ?_
  have e1 : (strOf l).data.toList = l := by simp [strOf]
  rw [e1, h] at he
  exact ⟨he, hw ▸ Mem.below_drewN w n⟩

/-- A community that may be there, as a call tells it. -/
def maybeV (r : Option Nat) : Value := match r with
  | some c => .tuple #[.int .u32 c, .bool true]
  | none => .tuple #[.int .u32 0, .bool false]

set_option maxRecDepth 100000 in
set_option maxHeartbeats 2000000 in
theorem halves_any (s : List UInt8) (hlen : s.length ≤ 1000000) (w : World) (hv : ErrVars w) :
    Calls Tryd.prog 42 #[.string (strOf s)] w (Tells (maybeV (halvesP s)) w) := by
  obtain ⟨a, b, r, hc, hla, hlb⟩ : ∃ a b r, Lib.cut s [58] = (a, b, r) ∧ a.length ≤ s.length ∧ b.length ≤ s.length := by
    rcases cut_cases s 58 with ⟨a, b, e, _, hc⟩ | ⟨_, hc⟩
    · refine ⟨a, b, true, hc, ?_, ?_⟩ <;> rw [e] <;> simp only [List.length_append, List.length_cons] <;> omega
    · exact ⟨s, [], false, hc, Nat.le_refl _, Nat.zero_le _⟩
  have CC := Go.Lib.hid (cut_at 58 s hc hlen w hv)
  have CA0 := fun (W : World) (h : ErrVars W) => parseUint_any a (by omega) W h
  have CB0 := fun (W : World) (h : ErrVars W) => parseUint_any b (by omega) W h
  have HE : halvesP s = halfOf r (num16 a) (num16 b) := by unfold halvesP; rw [hc]
  have la := @num16_le a
  have lb := @num16_le b
  rw [HE]
  have HV := Go.Lib.hid hv
  generalize num16 a = A at CA0 la ⊢
  generalize num16 b = B at CB0 lb ⊢
  have CA := Go.Lib.hid CA0
  have CB := Go.Lib.hid CB0
  clear CA0 CB0 hc HE hv hla hlb hlen
  cases r <;> cases A <;> cases B
  case true.some.some x y =>
    have bx := la rfl
    have bz := lb rfl
    clear la lb
    have CM := Go.Lib.hid (make_any x y (by omega) (by omega))
    go_enter Tryd.func42, Tryd.ntmps42
    go_wp2_with fail
    refine (CC.out).mono ?_
    rintro e w1 ⟨rfl, hb1⟩
    have HV1 := Go.Lib.hid ((HV.out).keep hb1)
    go_wp2_with fail
    refine (CA.out _ HV1.out).mono ?_
    rintro e w2 ⟨rfl, hb2⟩
    have HV2 := Go.Lib.hid ((HV1.out).keep hb2)
    go_wp2_with fail
    refine (CB.out _ HV2.out).mono ?_
    rintro e w3 ⟨rfl, hb3⟩
    go_wp2_with fail
    refine (CM.out _).mono ?_
    rintro e w4 ⟨rfl, rfl⟩
    go_wp2
    go_ret2
    exact ⟨rfl, Below.tr (Below.tr hb1 hb2) hb3⟩
  all_goals
    clear la lb
    go_enter Tryd.func42, Tryd.ntmps42
    go_wp2_with fail
    refine (CC.out).mono ?_
    rintro e w1 ⟨rfl, hb1⟩
    have HV1 := Go.Lib.hid ((HV.out).keep hb1)
    go_wp2_with fail
    refine (CA.out _ HV1.out).mono ?_
    first
    | rintro e w2 ⟨rfl, hb2⟩
    | rintro e w2 ⟨⟨u2, N2, rfl⟩, hb2⟩
    have HV2 := Go.Lib.hid ((HV1.out).keep hb2)
    go_wp2_with fail
    refine (CB.out _ HV2.out).mono ?_
    first
    | rintro e w3 ⟨rfl, hb3⟩
    | rintro e w3 ⟨⟨u3, N3, rfl⟩, hb3⟩
    go_wp2
    go_ret2
    exact ⟨rfl, Below.tr (Below.tr hb1 hb2) hb3⟩

/-- Where the search among the names stands. -/
def Stands (s : List UInt8) (c : Value) : Prop :=
  c = .int .u32 4294967041 ∨ (c = .int .u32 4294967042 ∧ nExp ≠ s) ∨ (c = .int .u32 4294967043 ∧ nExp ≠ s ∧ nAdv ≠ s) ∨ (c = .int .u32 4294967044 ∧ nExp ≠ s ∧ nAdv ≠ s ∧ nSub ≠ s)
set_option maxRecDepth 100000 in
theorem named_any (s : List UInt8) (w : World) :
    Calls Tryd.prog 41 #[.string (strOf s)] w fun e w' => e = .returned (maybeV (namedP s)) ∧ w = w' := by
  have t1 := str_eq nExp s
  have t2 := str_eq nAdv s
  have t3 := str_eq nSub s
  have K1 := Go.Lib.hid (fun w => show Calls Tryd.prog 23 #[.int .u32 4294967041] w fun e w' => e = .returned (.bool true) ∧ w = w' from known_any 4294967041 w)
  have K2 := Go.Lib.hid (fun w => show Calls Tryd.prog 23 #[.int .u32 4294967042] w fun e w' => e = .returned (.bool true) ∧ w = w' from known_any 4294967042 w)
  have K3 := Go.Lib.hid (fun w => show Calls Tryd.prog 23 #[.int .u32 4294967043] w fun e w' => e = .returned (.bool true) ∧ w = w' from known_any 4294967043 w)
  have K4 := Go.Lib.hid (fun w => show Calls Tryd.prog 23 #[.int .u32 4294967044] w fun e w' => e = .returned (.bool false) ∧ w = w' from known_any 4294967044 w)
  have T1 := Go.Lib.hid text_exp
  have T2 := Go.Lib.hid text_adv
  have T3 := Go.Lib.hid text_sub
  have H1 := Go.Lib.hid t1
  have H2 := Go.Lib.hid t2
  have H3 := Go.Lib.hid t3
  have D1 := Go.Lib.hid (show nExp = s → namedP s = some 4294967041 from fun h => by unfold namedP; rw [if_pos h])
  have D2 := Go.Lib.hid (show nExp ≠ s → nAdv = s → namedP s = some 4294967042 from fun h1 h => by unfold namedP; rw [if_neg h1, if_pos h])
  have D3 := Go.Lib.hid (show nExp ≠ s → nAdv ≠ s → nSub = s → namedP s = some 4294967043 from fun h1 h2 h => by unfold namedP; rw [if_neg h1, if_neg h2, if_pos h])
  have D4 := Go.Lib.hid (show nExp ≠ s → nAdv ≠ s → nSub ≠ s → namedP s = none from fun h1 h2 h => by unfold namedP; rw [if_neg h1, if_neg h2, if_neg h])
  clear t1 t2 t3
  generalize namedP s = R at D1 D2 D3 D4 ⊢
  go_enter Tryd.func41, Tryd.ntmps41
  go_wp2
  go_loop [4] (fun c => Stands s c) (fun c => 4294967044 - (intOf c).toNat)
  case atStart => exact .inl rfl
  case round =>
    rcases hrel with rfl | ⟨rfl, n1⟩ | ⟨rfl, n1, n2⟩ | ⟨rfl, n1, n2, n3⟩
    · by_cases h : nExp = s
      · have t := (H1.out).trans (decide_eq_true h)
        have HD := Go.Lib.hid (D1.out h)
        clear h
        go_wp2_with (first | (go_at_call 23; refine (K1.out _).mono ?_; rintro e w1 ⟨rfl, rfl⟩) | (go_at_call 25; refine (T1.out _).mono ?_; rintro e w1 ⟨rfl, rfl⟩))
        go_ret2
        exact ⟨by rw [HD.out]; rfl, rfl⟩
      · have t := (H1.out).trans (decide_eq_false h)
        have HN := Go.Lib.hid h
        clear h
        go_wp2_with (first | (go_at_call 23; refine (K1.out _).mono ?_; rintro e w1 ⟨rfl, rfl⟩) | (go_at_call 25; refine (T1.out _).mono ?_; rintro e w1 ⟨rfl, rfl⟩))
        go_round
        case rel => exact .inr (.inl ⟨rfl, HN.out⟩)
        case measure => simp [intOf]
    · have N1 := Go.Lib.hid n1
      clear n1
      by_cases h : nAdv = s
      · have t := (H2.out).trans (decide_eq_true h)
        have HD := Go.Lib.hid (D2.out N1.out h)
        clear h
        go_wp2_with (first | (go_at_call 23; refine (K2.out _).mono ?_; rintro e w1 ⟨rfl, rfl⟩) | (go_at_call 25; refine (T2.out _).mono ?_; rintro e w1 ⟨rfl, rfl⟩))
        go_ret2
        exact ⟨by rw [HD.out]; rfl, rfl⟩
      · have t := (H2.out).trans (decide_eq_false h)
        have HN := Go.Lib.hid h
        clear h
        go_wp2_with (first | (go_at_call 23; refine (K2.out _).mono ?_; rintro e w1 ⟨rfl, rfl⟩) | (go_at_call 25; refine (T2.out _).mono ?_; rintro e w1 ⟨rfl, rfl⟩))
        go_round
        case rel => exact .inr (.inr (.inl ⟨rfl, N1.out, HN.out⟩))
        case measure => simp [intOf]
    · have N1 := Go.Lib.hid n1
      have N2 := Go.Lib.hid n2
      clear n1 n2
      by_cases h : nSub = s
      · have t := (H3.out).trans (decide_eq_true h)
        have HD := Go.Lib.hid (D3.out N1.out N2.out h)
        clear h
        go_wp2_with (first | (go_at_call 23; refine (K3.out _).mono ?_; rintro e w1 ⟨rfl, rfl⟩) | (go_at_call 25; refine (T3.out _).mono ?_; rintro e w1 ⟨rfl, rfl⟩))
        go_ret2
        exact ⟨by rw [HD.out]; rfl, rfl⟩
      · have t := (H3.out).trans (decide_eq_false h)
        have HN := Go.Lib.hid h
        clear h
        go_wp2_with (first | (go_at_call 23; refine (K3.out _).mono ?_; rintro e w1 ⟨rfl, rfl⟩) | (go_at_call 25; refine (T3.out _).mono ?_; rintro e w1 ⟨rfl, rfl⟩))
        go_round
        case rel => exact .inr (.inr (.inr ⟨rfl, N1.out, N2.out, HN.out⟩))
        case measure => simp [intOf]
    · have HD := Go.Lib.hid (D4.out n1 n2 n3)
      clear n1 n2 n3
      go_wp2_with (go_at_call 23; refine (K4.out _).mono ?_; rintro e w1 ⟨rfl, rfl⟩)
      go_ret2
      exact ⟨by rw [HD.out]; rfl, rfl⟩

/-- What Parse tells. -/
def creadV (r : Option Nat) : Value := match r with
  | some c => .tuple #[.int .u32 c, .int .i64 0]
  | none => .tuple #[.int .u32 0, .int .i64 2]
set_option maxRecDepth 100000 in
set_option maxHeartbeats 1000000 in
theorem parse_any (s : List UInt8) (hlen : s.length ≤ 1000000) (w : World) (hT : Powers w) (hv : ErrVars w) :
    Calls Tryd.prog 26 #[.string (strOf s)] w (Tells (creadV (cread s)) w) := by
  have CN0 := named_any s
  have CH0 := halves_any s hlen w hv
  have HE : cread s = creadOf s (namedP s) (halvesP s) := rfl
  rw [HE]
  have hn := @namedP_lt s
  have hh := @halvesP_lt s
  generalize namedP s = A at CN0 hn ⊢
  generalize halvesP s = B at CH0 hh ⊢
  clear HE hv
  have CT := Go.Lib.hid (fun c (hc : c < 4294967296) W (h : Powers W) => text_any c hc W h)
  have HT := Go.Lib.hid hT
  clear hT hlen
  cases A with
  | some c =>
    obtain ⟨hc, he⟩ := hn rfl
    simp only [maybeV] at CN0
    have CN := Go.Lib.hid CN0
    have C := Go.Lib.hid (he ▸ (CT.out c hc w HT.out))
    rw [show creadOf s (some c) B = some c from if_pos he]
    have t : ((strOf s).toList != (strOf s).toList) = false := by simp
    clear he hn hh CH0 CN0
    go_enter Tryd.func26, Tryd.ntmps26
    go_wp2_with (first | (go_at_call 41; refine (CN.out _).mono ?_; rintro e w1 ⟨rfl, rfl⟩) | (go_at_call 25; refine (C.out).mono ?_; rintro e w1 ⟨rfl, hb1⟩))
    go_ret2
    exact ⟨rfl, hb1⟩
  | none =>
    simp only [maybeV] at CN0
    have CN := Go.Lib.hid CN0
    clear hn CN0
    cases B with
    | none =>
      simp only [maybeV] at CH0
      have CH := Go.Lib.hid CH0
      clear hh CH0
      go_enter Tryd.func26, Tryd.ntmps26
      go_wp2_with (first | (go_at_call 41; refine (CN.out _).mono ?_; rintro e w1 ⟨rfl, rfl⟩) | (go_at_call 42; refine (CH.out).mono ?_; rintro e w1 ⟨rfl, hb1⟩))
      go_ret2
      exact ⟨rfl, hb1⟩
    | some c =>
      have hc := hh rfl
      simp only [maybeV] at CH0
      have CH := Go.Lib.hid CH0
      clear CH0
      have C := Go.Lib.hid (fun W (h : RowKit.Below w.heap.size w W) => CT.out c hc W (tab_below HT.out h))
      by_cases he : ctext c = s
      · rw [show creadOf s none (some c) = some c from if_pos he]
        rw [he] at C
        have t : ((strOf s).toList != (strOf s).toList) = false := by simp
        clear he hh
        go_enter Tryd.func26, Tryd.ntmps26
        go_wp2_with (first | (go_at_call 41; refine (CN.out _).mono ?_; rintro e w1 ⟨rfl, rfl⟩) | (go_at_call 42; refine (CH.out).mono ?_; rintro e w1 ⟨rfl, hb1⟩) | (go_at_call 25; refine (C.out _ hb1).mono ?_; rintro e w2 ⟨rfl, hb2⟩))
        go_ret2
        exact ⟨rfl, Below.tr hb1 hb2⟩
      · rw [show creadOf s none (some c) = none from if_neg he]
        have t : ((strOf (ctext c)).toList == (strOf s).toList) = false := (str_eq (ctext c) s).trans (decide_eq_false he)
        generalize strOf (ctext c) = T at C t
        clear he hh
        go_enter Tryd.func26, Tryd.ntmps26
        go_wp2_with (first | (go_at_call 41; refine (CN.out _).mono ?_; rintro e w1 ⟨rfl, rfl⟩) | (go_at_call 42; refine (CH.out).mono ?_; rintro e w1 ⟨rfl, hb1⟩) | (go_at_call 25; refine (C.out _ hb1).mono ?_; rintro e w2 ⟨rfl, hb2⟩))
        go_ret2
        exact ⟨rfl, Below.tr hb1 hb2⟩
end Go.Proofs.YtdgfnnjcpoklfaaDoor.Com
