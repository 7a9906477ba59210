/- Notices' names: the program's and the reference's. -/
import Derived.Test.YtplolahbjebbaaaDoorNtcFun
import Derived.Test.YtplolahbjebbaaaDoorNum
import Derived.Test.YtplolahbjebbaaaDoorShelf
import Derived.Lib.ItoaLen
import Derived.IntWalk
namespace Go.Proofs.YtplolahbjebbaaaDoor.Ntc
open Go.RowKit Mem Oct Att Pfx
open Go.Lib (hid)

def kindB (c : Int) : List UInt8 := if c = 1 then [104, 101, 97, 100] else if c = 2 then [111, 112, 101, 110] else if c = 3 then [117, 112, 100, 97, 116, 101] else if c = 4 then [104, 111, 108, 100] else if c = 5 then [115, 116, 97, 116, 101] else if c = 6 then [99, 101, 97, 115, 101] else [111, 116, 104, 101, 114]
theorem kindB_len (c : Int) : (kindB c).length ≤ 6 := by unfold kindB; repeat' split <;> try decide
/-- A notice's name. -/
def nameB (c s : Int) : List UInt8 := if s = 0 then kindB c else kindB c ++ 32 :: Lib.itoa s
theorem kind_any (c : Int) (w : World) : Calls Tryd.prog 26 #[.int .i64 c] w fun e w' => e = .returned (.string (strOf (kindB c))) ∧ w = w' := by
  by_cases h1 : c = 1
  · subst h1; go_enter Tryd.func26, Tryd.ntmps26; go_wp2; go_ret; exact ⟨rfl, rfl⟩
  by_cases h2 : c = 2
  · subst h2; go_enter Tryd.func26, Tryd.ntmps26; go_wp2; go_ret; exact ⟨rfl, rfl⟩
  by_cases h3 : c = 3
  · subst h3; go_enter Tryd.func26, Tryd.ntmps26; go_wp2; go_ret; exact ⟨rfl, rfl⟩
  by_cases h4 : c = 4
  · subst h4; go_enter Tryd.func26, Tryd.ntmps26; go_wp2; go_ret; exact ⟨rfl, rfl⟩
  by_cases h5 : c = 5
  · subst h5; go_enter Tryd.func26, Tryd.ntmps26; go_wp2; go_ret; exact ⟨rfl, rfl⟩
  by_cases h6 : c = 6
  · subst h6; go_enter Tryd.func26, Tryd.ntmps26; go_wp2; go_ret; exact ⟨rfl, rfl⟩
  have e : kindB c = [111, 116, 104, 101, 114] := by unfold kindB; simp [h1, h2, h3, h4, h5, h6]
  rw [e]
  go_enter Tryd.func26, Tryd.ntmps26
  go_wp2
  go_ret
  exact ⟨rfl, rfl⟩
/-- What is asked of the table of powers of ten: it is wanted for numbers from 100 on, or below 0, alone. -/
def TabI (s : Int) (w : World) : Prop := (0 ≤ s ∧ s < 100) ∨ Lib.TabIs Tryd.prog w "internal/strconv.uint64pow10" .u64 Lib.pow10Tab
theorem gPow : Tryd.prog.globalNamed "internal/strconv.uint64pow10" = some 0 := by kernel_rfl
theorem tab_below {w w' : World} (h : Lib.TabIs Tryd.prog w "internal/strconv.uint64pow10" .u64 Lib.pow10Tab) (hb : Below w.heap.size w w') : Lib.TabIs Tryd.prog w' "internal/strconv.uint64pow10" .u64 Lib.pow10Tab := by
  have hc := h.cell gPow 0 (by rw [Lib.pow10Tab_length]; decide)
  exact var?_below hb gPow (block_lt_of_cell hc) h
theorem TabI.keep {s : Int} {w w' : World} (h : TabI s w) (hb : Below w.heap.size w w') : TabI s w' := h.imp id fun h => tab_below h hb
theorem below_ahead (w : World) (k : Nat) (os : Array Obj) : RowKit.Below w.heap.size w (Sort.grow (w.drewN k) os) :=
  ⟨rfl, rfl, rfl, by simp [Sort.grow, World.drewN], fun i hi => by simp [Sort.grow, World.drewN, Array.getElem?_append, hi]⟩
theorem itoa_nat (n : Nat) : Lib.itoa (n : Int) = dec n := by unfold Lib.itoa; rw [if_neg (by omega)]; rfl
theorem itoa_any (s : Int) (h0 : -9223372036854775808 ≤ s) (h1 : s ≤ 9223372036854775807) (w : World) (hT : TabI s w) : Calls Tryd.prog 27 #[.int .i64 s] w (Tells (.string (strOf (Lib.itoa s))) w) := by
  rcases hT with ⟨h2, h3⟩ | hT
  · obtain ⟨n, rfl⟩ := Int.eq_ofNat_of_zero_le h2
    exact (Tryd.strconv_Itoa_small n (by omega) w).mono fun e w' ⟨he, hw⟩ => ⟨by rw [he, itoa_nat]; rfl, hw ▸ Below.refl _ _⟩
  · exact (Tryd.strconv_Itoa s h0 h1 w hT).mono fun e w' ⟨he, k, os, hn⟩ => ⟨he, hn ▸ below_ahead w k os⟩
theorem cat_name (l m : List UInt8) : strOf l ++ (⟨#[32]⟩ ++ strOf m) = strOf (l ++ 32 :: m) := by
  rw [show (⟨#[32]⟩ : ByteArray) = strOf [32] from rfl, strOf_append, strOf_append]; simp
set_option maxHeartbeats 1000000 in
theorem name_any (v : Value) (n : No) (w : World) (h : Note w v n) (hT : TabI n.sub w) : Calls Tryd.prog 15 #[v] w (Tells (.string (strOf (nameB n.code n.sub))) w) := by
  obtain ⟨-, hw, vd, rfl, -⟩ := h
  have hb : -9223372036854775808 ≤ n.sub ∧ n.sub ≤ 9223372036854775807 := by simpa [Lit.wf, IntKind.min, IntKind.max, IntKind.signed, IntKind.bits] using hw
  obtain ⟨c, s, l⟩ := n
  dsimp only at hb hT ⊢
  have HX := hid (Box3.new w 24 (.int .i64 c) (.int .i64 s) vd)
  have BB := hid (ntc_box w (.int .i64 c) (.int .i64 s) vd)
  have CK := hid (fun W => kind_any c W)
  have CI := hid (itoa_any s hb.1 hb.2 _ (hT.keep BB.out))
  have l1 := kindB_len c
  have l2 := Lib.itoa_length_le s hb.1 hb.2
  unfold nameB
  generalize kindB c = K at CK l1 ⊢
  have HE := hid (cat_name K (Lib.itoa s))
  generalize Lib.itoa s = I at CI l2 HE ⊢
  have s1 : ¬ 9223372036854775807 < (⟨#[32]⟩ : ByteArray).size + (strOf I).size := by rw [strOf_size, show (⟨#[32]⟩ : ByteArray).size = 1 from rfl]; omega
  have s2 : ¬ 9223372036854775807 < (strOf K).size + ((⟨#[32]⟩ : ByteArray) ++ strOf I).size := by rw [show (⟨#[32]⟩ : ByteArray) = strOf [32] from rfl, strOf_append, strOf_size, strOf_size, List.length_append, List.length_singleton]; omega
  obtain ⟨c0, c1, c2⟩ := HX.out.cells
  clear hw hb hT l1 l2
  by_cases h : s = 0
  · subst h
    rw [if_pos rfl]
    go_enter Tryd.func15, Tryd.ntmps15
    go_wp2_with (go_at_call 26; refine (CK.out _).mono ?_; rintro e x ⟨rfl, rfl⟩)
    go_ret
    exact ⟨rfl, BB.out⟩
  · rw [if_neg h]
    have y1 : (s != 0) = true := by simpa using h
    clear h
    go_enter Tryd.func15, Tryd.ntmps15
    go_wp2_with (first
      | (go_at_call 26; refine (CK.out _).mono ?_; rintro e x ⟨rfl, rfl⟩)
      | (go_at_call 27; refine (CI.out).mono ?_; rintro e x ⟨rfl, hb⟩))
    go_ret
    exact ⟨by rw [← HE.out]; rfl, BB.out.trans (hb.mono BB.out.size)⟩
set_option maxHeartbeats 1000000 in
theorem rint_any (s : Int) (h0 : -9223372036854775808 ≤ s) (h1 : s ≤ 9223372036854775807) (w : World) : Calls Tryd.prog 28 #[.int .i64 s] w fun e w' => e = .returned (.string (strOf (Lib.itoa s))) ∧ w = w' := by
  by_cases h : s < 0
  · obtain ⟨m, rfl⟩ : ∃ m : Nat, s = -(m : Int) - 1 := ⟨(-s - 1).toNat, by omega⟩
    have e0 : Lib.itoa (-(m : Int) - 1) = 45 :: dec (m + 1) := by
      unfold Lib.itoa
      rw [if_pos h, show (-(m : Int) - 1).natAbs = m + 1 by omega]
    have C := hid (fun W => num_all (m + 1) (by omega) W)
    rw [show ((m + 1 : Nat) : Int) = (m : Int) + 1 by omega] at C
    have l1 := Dec.dec_len (m + 1) 20 (by omega) (by omega)
    have s1 : ¬ 9223372036854775807 < (⟨#[45]⟩ : ByteArray).size + (strOf (dec (m + 1))).size := by rw [strOf_size, show (⟨#[45]⟩ : ByteArray).size = 1 from rfl]; omega
    have HE := hid (show (⟨#[45]⟩ : ByteArray) ++ strOf (dec (m + 1)) = strOf (45 :: dec (m + 1)) by rw [show (⟨#[45]⟩ : ByteArray) = strOf [45] from rfl, strOf_append]; rfl)
    rw [e0]
    generalize dec (m + 1) = D at C s1 HE ⊢
    clear e0 l1
    go_enter Tryd.func28, Tryd.ntmps28
    go_wp2_with (go_at_call 35; refine (C.out _).mono ?_; rintro e x ⟨rfl, rfl⟩)
    go_ret
    exact ⟨by rw [← HE.out]; rfl, rfl⟩
  · obtain ⟨m, rfl⟩ := Int.eq_ofNat_of_zero_le (show 0 ≤ s by omega)
    have C := hid (fun W => num_all m (by omega) W)
    rw [itoa_nat]
    generalize dec m = D at C ⊢
    go_enter Tryd.func28, Tryd.ntmps28
    go_wp2_with (go_at_call 35; refine (C.out _).mono ?_; rintro e x ⟨rfl, rfl⟩)
    go_ret
    exact ⟨rfl, rfl⟩
theorem cat_name2 (l m : List UInt8) : strOf l ++ ⟨#[32]⟩ ++ strOf m = strOf (l ++ 32 :: m) := by
  rw [show (⟨#[32]⟩ : ByteArray) = strOf [32] from rfl, strOf_append, strOf_append]; simp
set_option maxHeartbeats 2000000 in
theorem rname_any (v : Value) (n : No) (w : World) (h : Note w v n) : Calls Tryd.prog 16 #[v] w (Tells (.string (strOf (nameB n.code n.sub))) w) := by
  obtain ⟨-, hw, vd, rfl, -⟩ := h
  have hb : -9223372036854775808 ≤ n.sub ∧ n.sub ≤ 9223372036854775807 := by simpa [Lit.wf, IntKind.min, IntKind.max, IntKind.signed, IntKind.bits] using hw
  obtain ⟨c, s, l⟩ := n
  dsimp only at hb ⊢
  have HX := hid (Box3.new w 24 (.int .i64 c) (.int .i64 s) vd)
  have BB := hid (ntc_box w (.int .i64 c) (.int .i64 s) vd)
  have CI := hid (fun W => rint_any s hb.1 hb.2 W)
  have l2 := Lib.itoa_length_le s hb.1 hb.2
  unfold nameB
  have HE := hid (fun K => cat_name2 K (Lib.itoa s))
  generalize Lib.itoa s = I at CI l2 HE ⊢
  have s5 : ¬ 9223372036854775807 < 5 + (strOf I).size := by rw [strOf_size]; omega
  have s6 : ¬ 9223372036854775807 < 6 + (strOf I).size := by rw [strOf_size]; omega
  have s7 : ¬ 9223372036854775807 < 7 + (strOf I).size := by rw [strOf_size]; omega
  clear hw hb l2
  rcases (show c = 1 ∨ c = 2 ∨ c = 3 ∨ c = 4 ∨ c = 5 ∨ c = 6 ∨ c ≤ 0 ∨ 0 < c ∧ 7 ≤ c by omega) with rfl | rfl | rfl | rfl | rfl | rfl | h1 | ⟨h1, h2⟩
  rotate_left 6
  focus have KE := hid (show kindB c = [111, 116, 104, 101, 114] by unfold kindB; (repeat' split) <;> first | omega | rfl)
  rotate_left
  focus have KE := hid (show kindB c = [111, 116, 104, 101, 114] by unfold kindB; (repeat' split) <;> first | omega | rfl)
  all_goals
    by_cases h : s = 0
    · subst h
      rw [if_pos rfl]
      go_enter Tryd.func16, Tryd.ntmps16
      go_wp2
      go_ret
      exact ⟨by first | (rw [KE.out]; rfl) | rfl, BB.out.alloc BB.out.size _⟩
    · rw [if_neg h]
      have y1 : (s != 0) = true := by simpa using h
      clear h
      go_enter Tryd.func16, Tryd.ntmps16
      go_wp2_with (go_at_call 28; refine (CI.out _).mono ?_; rintro e x ⟨rfl, rfl⟩)
      go_ret
      exact ⟨by rw [← HE.out]; first | (rw [KE.out]; rfl) | rfl, BB.out.alloc BB.out.size _⟩
end Go.Proofs.YtplolahbjebbaaaDoor.Ntc
