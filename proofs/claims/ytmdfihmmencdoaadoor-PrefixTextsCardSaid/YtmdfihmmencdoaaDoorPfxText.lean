/- The texts of addresses and prefixes: the contracts of Addr and Text. -/
import Derived.Test.YtmdfihmmencdoaaDoorPfxWalkD
import Derived.Test.YtmdfihmmencdoaaDoorShelf
import Derived.Test.YtmdfihmmencdoaaDoorTextMath
namespace Go.Proofs.YtmdfihmmencdoaaDoor.Pfx
open Go.RowKit Go.Sort

def strOf (l : List UInt8) : ByteArray := ⟨l.toArray⟩
theorem strOf_append (l m : List UInt8) : strOf l ++ strOf m = strOf (l ++ m) := by
  unfold strOf
  apply ByteArray.ext
  simp
theorem strOf_size (l : List UInt8) : (strOf l).size = l.length := by simp [strOf, ByteArray.size]

theorem byte_bits (a j : Nat) (ha : a < 4294967296) : bits .and .u32 ((a : Int) / 2 ^ (24 - 8 * j)) 255 = (byteN a j : Int) := by
  have e2 : ((a : Int) / 2 ^ (24 - 8 * j)) = ((a / 2 ^ (24 - 8 * j) : Nat) : Int) := by push_cast; rfl
  rw [e2]
  have h := u32_and_nat (a / 2 ^ (24 - 8 * j)) 255 (Nat.lt_of_le_of_lt (Nat.div_le_self _ _) ha) (by decide)
  rw [show ((255 : Nat) : Int) = 255 from rfl] at h
  rw [h, show (255 : Nat) = 2 ^ 8 - 1 from rfl, Nat.and_two_pow_sub_one_eq_mod]; rfl

/-- What is asked of Itoa: the digits of each byte of a, in every later world. -/
def ItoaOk (a : Nat) (w : World) : Prop := ∀ j, j < 4 → ∀ W, Below w.heap.size w W → Calls Tryd.prog 37 #[.int .i64 (byteN a j : Int)] W fun e w' => e = .returned (.string (strOf (dec (byteN a j)))) ∧ Below W.heap.size W w'

theorem addr_any (a : Nat) (ha : a < 4294967296) (w : World) (hI : ItoaOk a w) :
    Calls Tryd.prog 27 #[.int .u32 a] w fun e w' => e = .returned (.string (strOf (addrT a))) ∧ Below w.heap.size w w' := by
  go_enter Tryd.func27, Tryd.ntmps27
  go_wp2
  go_loopw [3, 4] (fun s i wr => ∃ j : Nat, j ≤ 4 ∧ i = .int .i64 (24 - 8 * j : Int) ∧ s = .string (strOf (addrPre a j)) ∧ Below w.heap.size w wr) (fun _ i _ => (intOf i + 8).toNat)
  case atStart => exact ⟨0, by omega, rfl, rfl, Below.refl _ _⟩
  case round =>
    obtain ⟨j, hj, rfl, rfl, hbr⟩ := hrel
    by_cases hlt : j < 4
    · have hB := byte_bits a j ha
      have hl := byteN_lt a j
      have hp := addrPre_len a j
      have hd := dec_len (byteN a j) (by omega)
      have hw : wrap64 (byteN a j : Int) = (byteN a j : Int) := IntWalk.wrap64_in _ ⟨by omega, by omega⟩
      have s1 : ¬ 9223372036854775807 < (strOf (addrPre a j)).size + (strOf (dec (byteN a j))).size := by rw [strOf_size, strOf_size]; omega
      have s2 : ¬ 9223372036854775807 < (strOf (addrPre a j)).size + (strOf (dec (byteN a j))).size + 1 := by rw [strOf_size, strOf_size]; omega
      by_cases h3 : j < 3
      · have e3 : addrPre a (j + 1) = addrPre a j ++ dec (byteN a j) ++ [46] := by rw [addrPre, if_pos h3]
        have E3 := Go.Lib.hid e3
        clear e3
        go_wp2_with (go_at_call 37; refine (hI j hlt wr hbr).mono ?_; rintro e w1 ⟨rfl, hb1⟩)
        go_roundw
        case rel => exact ⟨j + 1, by omega, by congr 1; omega, by rw [E3.out, ← strOf_append, ← strOf_append]; rfl, Below.tr hbr hb1⟩
        case measure => simp [intOf]; omega
      · have h3' : j = 3 := by omega
        have e3 : addrPre a (j + 1) = addrPre a j ++ dec (byteN a j) := by rw [addrPre, if_neg h3, List.append_nil]
        have E3 := Go.Lib.hid e3
        have H3 := Go.Lib.hid h3'
        clear e3 h3'
        go_wp2_with (go_at_call 37; refine (hI j hlt wr hbr).mono ?_; rintro e w1 ⟨rfl, hb1⟩)
        go_roundw
        case rel => exact ⟨j + 1, by omega, by congr 1; omega, by rw [E3.out, ← strOf_append], Below.tr hbr hb1⟩
        case measure => simp [intOf]; omega
    · have h4 : j = 4 := by omega
      subst h4
      go_wp2
      go_ret
      exact ⟨rfl, hbr⟩

/-- Text of a good prefix. -/
theorem text_good (a n : Nat) (ha : a < 4294967296) (hn : n ≤ 32) (hg : goodB a (n : Int) = true) (w : World) (hI : ItoaOk a w) :
    Calls Tryd.prog 25 #[.agg #[.int .u32 a, .int .i64 n]] w fun e w' => e = .returned (.string (strOf (textT a n))) ∧ Below w.heap.size w w' := by
  have hb := below_new w (.cells #[.int .u32 (a : Int), .int .i64 n] 24)
  obtain ⟨c0, c1⟩ := cells_two w (.int .u32 (a : Int)) (.int .i64 n) 24
  have hA : (addrT a).length ≤ 16 := addrPre_len a 4
  have hN := dec_len n (by omega)
  have s1 : ¬ 9223372036854775807 < (strOf (addrT a)).size + 1 := by rw [strOf_size]; omega
  have s2 : ¬ 9223372036854775807 < (strOf (addrT a)).size + 1 + (strOf (dec n)).size := by rw [strOf_size, strOf_size]; omega
  go_enter Tryd.func25, Tryd.ntmps25
  go_wp2_with fail
  generalize w.alloc (.cells #[.int .u32 (a : Int), .int .i64 n] 24) = W at hb c0 c1 ⊢
  go_wp2_with (go_at_call 11; with_reducible refine (good_any a n ha _).mono ?_; rintro e w1 ⟨rfl, hb1⟩; have d0 := keeps hb1 c0; have d1 := keeps hb1 c1)
  have k0 := cell_regrown d0
  have k1 := cell_regrown d1
  have cA : ∀ d os, Calls Tryd.prog 27 #[.int .u32 a] (grow (redrawn w1 d) os) fun e w'' => e = .returned (.string (strOf (addrT a))) ∧ ∃ p : Regrown, w'' = grow (redrawn w1 p.d) p.os := fun d os =>
    Calls.regrown_of (addr_any a ha _ fun j hj W' hW' => hI j hj W' (Below.tr hb (Below.tr hb1 (Below.tr (below_regrown w1 d os) hW'))))
  have cI := inRegion (f := 37) (args := #[.int .i64 n]) (v := .string (strOf (dec n))) (fun w => (Tryd.strconv_Itoa_small n (by omega) w).mono fun _ _ ⟨he, hw⟩ => ⟨he, hw ▸ Below.refl _ _⟩) w1
  refine wp_region_quiet_below (by kernel_rfl) (by kernel_rfl) ?_
  repeat (first | go_big_quiet_step (first | exact cA _ _ | exact cI _ _) | quiet_step (first | exact cA _ _ | exact cI _ _))
  refine wpQuiet_nil ?_
  intro _ hw'
  obtain ⟨⟨dq, osq⟩, hw''⟩ := hw'
  subst hw''
  go_wp2_with fail
  go_ret
  refine ⟨?_, Below.tr hb (Below.tr hb1 (below_regrown w1 dq osq))⟩
  unfold textT
  rw [show addrT a ++ 47 :: dec n = addrT a ++ [47] ++ dec n by simp, ← strOf_append, ← strOf_append]
  rfl

/-- A prefix that is not good has no text. -/
theorem text_bad (a : Nat) (n : Int) (ha : a < 4294967296) (hg : goodB a n = false) (w : World) :
    Calls Tryd.prog 25 #[.agg #[.int .u32 a, .int .i64 n]] w fun e w' => e = .returned (.string (strOf [])) ∧ Below w.heap.size w w' := by
  have hb := below_new w (.cells #[.int .u32 (a : Int), .int .i64 n] 24)
  obtain ⟨c0, c1⟩ := cells_two w (.int .u32 (a : Int)) (.int .i64 n) 24
  go_enter Tryd.func25, Tryd.ntmps25
  go_wp2_with fail
  generalize w.alloc (.cells #[.int .u32 (a : Int), .int .i64 n] 24) = W at hb c0 c1 ⊢
  go_wp2_with (go_at_call 11; with_reducible refine (good_any a n ha _).mono ?_; rintro e w1 ⟨rfl, hb1⟩)
  go_ret
  exact ⟨rfl, Below.tr hb hb1⟩

end Go.Proofs.YtmdfihmmencdoaaDoor.Pfx
