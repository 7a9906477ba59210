/- The reference's Set, Pick and Same, and 'slices.Equal', 'Is'. -/
import Derived.Test.YtcdbeljmniaofaaGreatDoorSetRef2
import Derived.BigQuiet
import Derived.Deep.QuietTactic
namespace Go.Proofs.YtcdbeljmniaofaaGreatDoor.Nums
open Go.RowKit Mem Rise

theorem refPut_any (v : Value) (l : List Nat) (n : Nat) (w : World) (hv : U32s w v l) (h32 : n < 4294967296) (hlen : l.length ≤ 2000) :
    Calls Tryz.prog 28 #[v, .int .u32 n] w (Tells32 (put l n) w) := by
  by_cases hn : n ∈ l
  · exact refPut_has v l n w hv hn
  · exact refPut_not v l n w hv hn h32 hlen

theorem length_put (l : List Nat) (n : Nat) : (put l n).length ≤ l.length + 1 := by
  unfold put
  split
  · omega
  · have e := congrArg List.length (List.takeWhile_append_dropWhile (p := fun x => decide (x < n)) (l := l))
    simp only [List.length_append, List.length_cons] at e ⊢
    omega
theorem length_setOf (l : List Nat) : (setOf l).length ≤ l.length := by
  induction hn : l.length generalizing l with
  | zero => rw [List.length_eq_zero_iff.1 hn]; simp [setOf]
  | succ n ih =>
    rcases List.eq_nil_or_concat l with rfl | ⟨m, c, rfl⟩
    · simp at hn
    · rw [List.concat_eq_append] at *
      rw [setOf_snoc]
      have := length_put (setOf m) c
      have := ih m (by simpa using hn)
      omega
theorem take_snoc {l : List Nat} {k x : Nat} (h : l[k]? = some x) : l.take (k + 1) = l.take k ++ [x] := by rw [List.take_add_one, h]; rfl

set_option maxHeartbeats 1000000 in
theorem refSet_any (v : Value) (l : List Nat) (w : World) (hv : U32s w v l) (hlen : l.length ≤ 1000) :
    Calls Tryz.prog 18 #[v] w (Tells32 (setOf l) w) := by
  have HV := Go.Lib.hid hv
  obtain ⟨A, c, rfl, hlc, hc, hl, hat⟩ := hv.open_
  have CP := Go.Lib.hid refPut_any
  have HAT := Go.Lib.hid hat
  clear hl hat hv
  have h0 : U32s (w.alloc (.cells #[] 29)) (.slice (some ⟨w.heap.size, 0, none⟩) 0 0) [] := U32s.of_own (base := w.heap.size) (e := 29) (own_blk (Nat.le_refl _) (heap_alloc_new _ _)) (by simp)
  go_enter Tryz.func18, Tryz.ntmps18
  go_wp2
  go_loopw [3, 4] (fun v i wr => ∃ k : Nat, k ≤ l.length ∧ i = .int .i64 k ∧ U32s wr v (setOf (l.take k)) ∧ Below w.heap.size w wr) (fun _ i _ => l.length - (intOf i).toNat)
  case atStart => exact ⟨0, Nat.zero_le _, rfl, h0, (Below.refl _ _).alloc (Nat.le_refl _) _⟩
  case round =>
    obtain ⟨k, hk, rfl, hs, hb⟩ := hrel
    by_cases hlt : k < l.length
    · obtain ⟨b, off, x, rfl, hbw, hx, hx32, hcell⟩ := ((HV.out).keep hb).at_ hlt
      have HX := Go.Lib.hid (take_snoc hx)
      have hlk : (setOf (l.take k)).length ≤ 2000 := by
        have := length_setOf (l.take k)
        have : (l.take k).length ≤ l.length := List.length_take_le' _ _
        omega
      have C := Go.Lib.hid (fun v W h => (CP.out v _ x W h hx32 hlk))
      clear hx hlk
      go_wp2_with (go_at_call 28; refine (C.out _ _ hs).mono ?_; rintro e w1 ⟨v1, rfl, hs1, hb1⟩)
      go_roundw
      case rel => exact ⟨k + 1, by omega, by go_num, by rw [HX.out, setOf_snoc]; exact hs1, hb.trans (hb1.mono hb.size)⟩
      case measure => simp [intOf]; omega
    · have HK := Go.Lib.hid (show k = l.length by omega)
      go_wp2
      go_ret
      exact ⟨_, rfl, by have := hs; rw [HK.out, List.take_length] at this; exact this, hb⟩

end Go.Proofs.YtcdbeljmniaofaaGreatDoor.Nums
