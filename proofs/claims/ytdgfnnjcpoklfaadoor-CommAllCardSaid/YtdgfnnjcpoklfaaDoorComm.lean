/- comm's Make, Parts, Known, Keeps and Text; the reference's Text. -/
import Derived.Test.YtdgfnnjcpoklfaaDoorCommMath
import Derived.Test.YtdgfnnjcpoklfaaDoorNumText
import Derived.Laws.BitsAllLaws
import Derived.Lib.QuietBelow
namespace Go.Proofs.YtdgfnnjcpoklfaaDoor.Com
open Go.RowKit Go.Sort Mem Rise Pfx Dec Nums

theorem or_halves (a b : Nat) (ha : a < 65536) (hb : b < 65536) : bits .or .u32 ((a : Int) * 65536) (b : Int) = ((a * 65536 + b : Nat) : Int) := by
  have h := u32_or_nat (a * 65536) b (by omega) (by omega)
  rw [show ((a * 65536 : Nat) : Int) = (a : Int) * 65536 by omega] at h
  rw [h]
  have e := Nat.shiftLeft_add_eq_or_of_lt (i := 16) (b := b) (by omega) a
  rw [Nat.shiftLeft_eq, show (2 : Nat) ^ 16 = 65536 from rfl] at e
  rw [e]

theorem make_any (a b : Nat) (ha : a < 65536) (hb : b < 65536) (w : World) : Calls Tryd.prog 20 #[.int .u16 a, .int .u16 b] w fun e w' => e = .returned (.int .u32 (a * 65536 + b : Nat)) ∧ w = w' := by
  have hM := or_halves a b ha hb
  go_enter Tryd.func20, Tryd.ntmps20
  go_wp2
  go_ret
  exact ⟨rfl, rfl⟩
theorem parts_any (c : Nat) (hc : c < 4294967296) (w : World) : Calls Tryd.prog 21 #[.int .u32 c] w fun e w' => e = .returned (.tuple #[.int .u16 (c / 65536 : Nat), .int .u16 (c % 65536 : Nat)]) ∧ w = w' := by
  go_enter Tryd.func21, Tryd.ntmps21
  go_wp2
  go_ret2
  exact ⟨rfl, rfl⟩

/-- Which are well-known. -/
def knownB (c : Nat) : Bool := decide (4294967041 ≤ c ∧ c ≤ 4294967043)
theorem known_any (c : Nat) (w : World) : Calls Tryd.prog 23 #[.int .u32 c] w fun e w' => e = .returned (.bool (knownB c)) ∧ w = w' := by
  by_cases h1 : 4294967041 ≤ c
  · have k1 : (4294967041 : Int) ≤ (c : Int) := by omega
    by_cases h2 : c ≤ 4294967043
    · have k2 : (c : Int) ≤ 4294967043 := by omega
      have HK := Go.Lib.hid (show knownB c = true from decide_eq_true ⟨h1, h2⟩)
      go_enter Tryd.func23, Tryd.ntmps23
      go_wp2
      go_ret
      exact ⟨by rw [HK.out]; simp, rfl⟩
    · have k2 : ¬ (c : Int) ≤ 4294967043 := by omega
      have HK := Go.Lib.hid (show knownB c = false from decide_eq_false fun h => h2 h.2)
      go_enter Tryd.func23, Tryd.ntmps23
      go_wp2
      go_ret
      exact ⟨by rw [HK.out]; simp, rfl⟩
  · have k1 : ¬ (4294967041 : Int) ≤ (c : Int) := by omega
    have HK := Go.Lib.hid (show knownB c = false from decide_eq_false fun h => h1 h.1)
    go_enter Tryd.func23, Tryd.ntmps23
    go_wp2
    go_ret
    exact ⟨by rw [HK.out]; simp, rfl⟩

/-- Where a number stands first in a list, if it does. -/
def Indexed (r : Bool) (w : World) (e : Ending) (w' : World) : Prop := ∃ i : Int, e = .returned (.int .i64 i) ∧ decide ((0 : Int) ≤ i) = r ∧ w = w'
theorem index_any (v : Value) (l : List Nat) (n : Nat) (w : World) (hv : U32s w v l) :
    Calls Tryd.prog 53 #[v, .int .u32 n] w (Indexed (decide (n ∈ l)) w) := by
  obtain ⟨A, c, rfl, hlc, hc, hl, hat⟩ := hv.open_
  go_enter Tryd.func53, Tryd.ntmps53
  go_wp2
  go_loop [8] (fun i => ∃ k : Nat, k ≤ l.length ∧ i = .int .i64 k ∧ n ∉ l.take k) (fun i => l.length - (intOf i).toNat)
  case atStart => exact ⟨0, Nat.zero_le _, rfl, by simp⟩
  case round =>
    obtain ⟨k, hk, rfl, hno⟩ := hrel
    by_cases hlt : k < l.length
    · obtain ⟨b, off, x, rfl, hb, hx, hx32, hcell⟩ := hat k hlt
      by_cases he : x = n
      · have HE := Go.Lib.hid he
        have ht : ((n : Int) == (x : Int)) = true := by subst he; simp
        have HX := Go.Lib.hid hx
        clear he hx
        go_wp2
        go_ret
        exact ⟨k, rfl, by rw [decide_eq_true (show (0 : Int) ≤ (k : Int) by omega), decide_eq_true (by rw [← HE.out]; exact List.mem_of_getElem? HX.out)], rfl⟩
      · have HE := Go.Lib.hid he
        have ht : ((n : Int) == (x : Int)) = false := by simp; omega
        have HX := Go.Lib.hid hx
        clear he hx
        go_wp2
        go_round
        case rel => exact ⟨k + 1, by omega, by go_num, by rw [List.take_add_one, HX.out]; simp; exact ⟨hno, fun e => HE.out e.symm⟩⟩
        case measure => simp [intOf]; omega
    · have hk2 : k = l.length := by omega
      have HK := Go.Lib.hid hk2
      clear hk2
      go_wp2
      go_ret
      exact ⟨-1, rfl, by rw [decide_eq_false (show ¬ (0 : Int) ≤ -1 by omega), decide_eq_false (by have := hno; rw [HK.out, List.take_length] at this; exact this)], rfl⟩
theorem contains_any (v : Value) (l : List Nat) (n : Nat) (w : World) (hv : U32s w v l) :
    Calls Tryd.prog 39 #[v, .int .u32 n] w fun e w' => e = .returned (.bool (decide (n ∈ l))) ∧ w = w' := by
  have C := Go.Lib.hid (index_any v l n w hv)
  generalize decide (n ∈ l) = r at C ⊢
  obtain ⟨A, c, rfl, -, -, -, -⟩ := hv.open_
  clear hv
  go_enter Tryd.func39, Tryd.ntmps39
  go_wp2_with (go_at_call 53; refine (C.out).mono ?_; rintro e w1 ⟨i, rfl, hi, rfl⟩; have HI := Go.Lib.hid hi; clear hi)
  go_ret
  exact ⟨by rw [← HI.out]; rfl, rfl⟩

theorem keeps_any (v : Value) (l : List Nat) (w : World) (hv : U32s w v l) :
    Calls Tryd.prog 22 #[v] w fun e w' => e = .returned (.tuple #[.bool (decide (4294967041 ∈ l) || decide (4294967043 ∈ l)), .bool (decide (4294967042 ∈ l))]) ∧ w = w' := by
  have C1 := Go.Lib.hid (show Calls Tryd.prog 39 #[v, .int .u32 4294967041] w fun e w' => e = .returned (.bool (decide (4294967041 ∈ l))) ∧ w = w' from contains_any v l 4294967041 w hv)
  have C2 := Go.Lib.hid (show Calls Tryd.prog 39 #[v, .int .u32 4294967043] w fun e w' => e = .returned (.bool (decide (4294967043 ∈ l))) ∧ w = w' from contains_any v l 4294967043 w hv)
  have C3 := Go.Lib.hid (show Calls Tryd.prog 39 #[v, .int .u32 4294967042] w fun e w' => e = .returned (.bool (decide (4294967042 ∈ l))) ∧ w = w' from contains_any v l 4294967042 w hv)
  generalize decide (4294967041 ∈ l) = a at C1 ⊢
  generalize decide (4294967043 ∈ l) = b at C2 ⊢
  generalize decide (4294967042 ∈ l) = c at C3 ⊢
  obtain ⟨A, k, rfl, -, -, -, -⟩ := hv.open_
  clear hv
  cases a
  all_goals
    go_enter Tryd.func22, Tryd.ntmps22
    go_wp2_with (first | (go_at_call 39; with_reducible refine (C1.out).mono ?_; rintro e w1 ⟨rfl, rfl⟩) | (go_at_call 39; with_reducible refine (C2.out).mono ?_; rintro e w1 ⟨rfl, rfl⟩) | (go_at_call 39; with_reducible refine (C3.out).mono ?_; rintro e w1 ⟨rfl, rfl⟩))
    go_ret2
    exact ⟨by simp, rfl⟩

/-- What is asked of the table of powers of ten. -/
abbrev Powers (w : World) : Prop := Lib.TabIs Tryd.prog w "internal/strconv.uint64pow10" .u64 Lib.pow10Tab
theorem below_ahead (w : World) (k : Nat) (os : Array Obj) : RowKit.Below w.heap.size w (grow (w.drewN k) os) :=
  ⟨rfl, rfl, rfl, by simp [grow, World.drewN], fun i hi => by simp [grow, World.drewN, Array.getElem?_append, hi]⟩
theorem itoa_any (n : Nat) (hn : n < 65536) (w : World) (hT : Powers w) : Calls Tryd.prog 40 #[.int .i64 n] w fun e w' => e = .returned (.string (strOf (dec n))) ∧ RowKit.Below w.heap.size w w' :=
  (Tryd.strconv_Itoa n (by omega) (by omega) w hT).mono fun e w' ⟨he, k, os, hn⟩ => ⟨by rw [he, dec_itoa]; rfl, hn ▸ below_ahead w k os⟩

theorem text_exp (w : World) : Calls Tryd.prog 25 #[.int .u32 4294967041] w fun e w' => e = .returned (.string (strOf nExp)) ∧ w = w' := by
  go_enter Tryd.func25, Tryd.ntmps25
  go_wp2
  go_ret
  exact ⟨rfl, rfl⟩
theorem text_adv (w : World) : Calls Tryd.prog 25 #[.int .u32 4294967042] w fun e w' => e = .returned (.string (strOf nAdv)) ∧ w = w' := by
  go_enter Tryd.func25, Tryd.ntmps25
  go_wp2
  go_ret
  exact ⟨rfl, rfl⟩
theorem text_sub (w : World) : Calls Tryd.prog 25 #[.int .u32 4294967043] w fun e w' => e = .returned (.string (strOf nSub)) ∧ w = w' := by
  go_enter Tryd.func25, Tryd.ntmps25
  go_wp2
  go_ret
  exact ⟨rfl, rfl⟩
theorem cat_half (hi lo : Nat) : strOf (dec hi) ++ ⟨#[58]⟩ ++ strOf (dec lo) = strOf (dec hi ++ 58 :: dec lo) := by
  rw [show (⟨#[58]⟩ : ByteArray) = strOf [58] from rfl, strOf_append, strOf_append]; simp
set_option maxHeartbeats 1000000 in
theorem text_half (c : Nat) (hc : c < 4294967296) (h1 : c ≠ 4294967041) (h2 : c ≠ 4294967042) (h3 : c ≠ 4294967043) (w : World) (hT : Powers w) :
    Calls Tryd.prog 25 #[.int .u32 c] w (Tells (.string (strOf (halfT c))) w) := by
  have CP0 := parts_any c hc
  unfold halfT
  generalize hhi : c / 65536 = hi at CP0 ⊢
  generalize hlo : c % 65536 = lo at CP0 ⊢
  have b1 : hi < 65536 := by omega
  have b2 : lo < 65536 := by omega
  have l1 := Dec.dec_len hi 5 (by omega) (by omega)
  have l2 := Dec.dec_len lo 5 (by omega) (by omega)
  have s1 : ¬ 9223372036854775807 < (strOf (dec hi)).size + 1 := by rw [strOf_size]; omega
  have s2 : ¬ 9223372036854775807 < (strOf (dec hi)).size + 1 + (strOf (dec lo)).size := by rw [strOf_size, strOf_size]; omega
  have t1 : ((c : Int) == 4294967041) = false := by simp; omega
  have t2 : ((c : Int) == 4294967042) = false := by simp; omega
  have t3 : ((c : Int) == 4294967043) = false := by simp; omega
  have CP := Go.Lib.hid CP0
  have CI := Go.Lib.hid (itoa_any hi b1 w hT)
  have CJ := Go.Lib.hid (fun W (h : RowKit.Below w.heap.size w W) => itoa_any lo b2 W (tab_below hT h))
  clear CP0 hhi hlo h1 h2 h3 hT l1 l2
  go_enter Tryd.func25, Tryd.ntmps25
  go_wp2_with fail
  refine (CP.out _).mono ?_
  rintro e w1 ⟨rfl, rfl⟩
  go_wp2_with fail
  refine (CI.out).mono ?_
  rintro e w1 ⟨rfl, hb1⟩
  go_wp2_with fail
  refine (CJ.out _ hb1).mono ?_
  rintro e w2 ⟨rfl, hb2⟩
  go_wp2
  go_ret
  exact ⟨by rw [← cat_half]; rfl, Below.tr hb1 hb2⟩
/-- Text. -/
theorem text_any (c : Nat) (hc : c < 4294967296) (w : World) (hT : Powers w) : Calls Tryd.prog 25 #[.int .u32 c] w (Tells (.string (strOf (ctext c))) w) := by
  rcases ctext_cases c with ⟨h, e⟩ | ⟨h, e⟩ | ⟨h, e⟩ | ⟨⟨h1, h2, h3⟩, e⟩ <;> rw [e]
  · subst h
    exact (text_exp w).mono fun _ _ ⟨he, hw⟩ => ⟨he, hw ▸ Below.refl _ _⟩
  · subst h
    exact (text_adv w).mono fun _ _ ⟨he, hw⟩ => ⟨he, hw ▸ Below.refl _ _⟩
  · subst h
    exact (text_sub w).mono fun _ _ ⟨he, hw⟩ => ⟨he, hw ▸ Below.refl _ _⟩
  · exact text_half c hc h1 h2 h3 w hT

/-- The statements' small living call. -/
theorem lives_any (w : World) (hT : Powers w) : Calls Tryd.prog 24 #[] w (Tells (.bool true) w) := by
  have hE : ctext 4259840100 = [54, 53, 48, 48, 48, 58, 49, 48, 48] := by
    rw [ctext_half (by omega) (by omega) (by omega)]
    unfold halfT
    rw [show 4259840100 / 65536 = 65000 by omega, show 4259840100 % 65536 = 100 by omega, dec_step (n := 65000) (by omega), dec_step (n := 65000 / 10) (by omega), dec_step (n := 65000 / 10 / 10) (by omega), dec_three (n := 100) (by omega) (by omega), dec_two (n := 65000 / 10 / 10 / 10) (by omega) (by omega)]
    decide
  have C1 := Go.Lib.hid (fun w => show Calls Tryd.prog 20 #[.int .u16 65000, .int .u16 100] w fun e w' => e = .returned (.int .u32 4259840100) ∧ w = w' from make_any 65000 100 (by omega) (by omega) w)
  have C2 := Go.Lib.hid (show Calls Tryd.prog 25 #[.int .u32 4259840100] w (Tells (.string ⟨#[54, 53, 48, 48, 48, 58, 49, 48, 48]⟩) w) from hE ▸ text_any 4259840100 (by omega) w hT)
  have C3 := Go.Lib.hid (fun w => show Calls Tryd.prog 23 #[.int .u32 4294967041] w fun e w' => e = .returned (.bool true) ∧ w = w' from known_any 4294967041 w)
  clear hE hT
  go_enter Tryd.func24, Tryd.ntmps24
  go_wp2_with fail
  refine (C1.out _).mono ?_
  rintro e w1 ⟨rfl, rfl⟩
  go_wp2_with fail
  refine (C2.out).mono ?_
  rintro e w1 ⟨rfl, hb1⟩
  go_wp2_with fail
  refine (C3.out _).mono ?_
  rintro e w2 ⟨rfl, rfl⟩
  go_wp2
  go_ret
  exact ⟨rfl, hb1⟩
end Go.Proofs.YtdgfnnjcpoklfaaDoor.Com
