/- The reference's loops over numbers. -/
import Derived.Test.YtcdbeljmniaofaaGreatDoorMem
import Derived.Test.YtcdbeljmniaofaaGreatDoorSetMath
namespace Go.Proofs.YtcdbeljmniaofaaGreatDoor.Nums
open Go.RowKit Mem Rise

theorem refHas_any (v : Value) (l : List Nat) (n : Nat) (w : World) (hv : U32s w v l) :
    Calls Tryz.prog 39 #[v, .int .u32 n] w fun e w' => e = .returned (.bool (decide (n ∈ l))) ∧ w = w' := by
  obtain ⟨A, c, rfl, hlc, hc, hl, hat⟩ := hv.open_
  go_enter Tryz.func39, Tryz.ntmps39
  go_wp2
  go_loop [5] (fun i => ∃ k : Nat, k ≤ l.length ∧ i = .int .i64 k ∧ n ∉ l.take k) (fun i => l.length - (intOf i).toNat)
  case atStart => exact ⟨0, Nat.zero_le _, rfl, by simp⟩
  case round =>
    obtain ⟨k, hk, rfl, hno⟩ := hrel
    by_cases hlt : k < l.length
    · obtain ⟨b, off, x, rfl, hb, hx, hx32, hcell⟩ := hat k hlt
      by_cases he : x = n
      · have HE := Go.Lib.hid he
        have ht : ((x : Int) == (n : Int)) = true := by subst he; simp
        have HX := Go.Lib.hid hx
        clear he hx
        go_wp2
        go_ret
        exact ⟨ret_bool (decide_eq_true (by rw [← HE.out]; exact List.mem_of_getElem? HX.out)).symm, rfl⟩
      · have HE := Go.Lib.hid he
        have ht : ((x : Int) == (n : Int)) = false := by simp; omega
        have HX := Go.Lib.hid hx
        clear he hx
        go_wp2
        go_round
        case rel => exact ⟨k + 1, by omega, by go_num, by rw [List.take_add_one, HX.out]; simp; exact ⟨hno, fun e => HE.out e.symm⟩⟩
        case measure => simp [intOf]; omega
    · have hk2 : k = l.length := by omega
      have HK := Go.Lib.hid hk2
      clear hk2
      go_wp2
      go_ret
      exact ⟨ret_bool (decide_eq_false (by have := hno; rw [HK.out, List.take_length] at this; exact this)).symm, rfl⟩

theorem elem32 : ∃ i, IsElem Tryz.prog 24 29 1 4 i (.int .u32 0) := IsElem.mk_ Tryz.underlying24 (by kernel_rfl) rfl (by decide)
theorem map_take (l : List Nat) (k : Nat) : (l.map fun n : Nat => Value.int .u32 n).take (k * 1) = (l.take k).map fun n : Nat => Value.int .u32 n := by rw [Nat.mul_one, List.map_take]

theorem map_drop (l : List Nat) (k : Nat) : (l.map fun n : Nat => Value.int .u32 n).drop (k * 1) = (l.drop k).map fun n : Nat => Value.int .u32 n := by rw [Nat.mul_one, List.map_drop]

set_option maxHeartbeats 400000 in
/-- Numbers cut to a length, in memory of their own. -/
theorem few_any (v : Value) (l : List Nat) (k : Nat) (w : World) (hv : U32s w v l) (hk : k ≤ 1000) :
    Calls Tryz.prog 5 #[v, .int .i64 k] w (Gives32 29 (l.take k) w) := by
  obtain ⟨i, E⟩ := elem32
  obtain ⟨⟨hlen, A, c, rfl, hlc, hc, hr⟩, hl⟩ := hv
  have hmk : ∀ (W : World), W.ownsRow W.heap.size 29 1 (.slice none 0 0) 0 [] := fun W => World.ownsRow_nil _ _ _ _
  have hmade := World.ownsRow_lit (base := w.heap.size) (e := 29) (size := 1) w #[] 0 (Nat.le_refl _) (Nat.zero_le _) rfl
  have hc2 : c ≤ 9223372036854775807 := hc
  have hR : Row w 1 (.slice A l.length c) l.length (l.map fun n : Nat => Value.int .u32 n) := ⟨hlen, A, c, rfl, hlc, hc, hr⟩
  by_cases hlt : k < l.length
  · have hR2 := hR.prefix_ (k := k) (by omega)
    rw [map_take] at hR2
    have HL : Hid ((l.take k).length = k) := Go.Lib.hid (by rw [List.length_take]; omega)
    have hR3 := hR2.keep ((Below.refl _ _).alloc (Nat.le_refl _) (.cells #[] 29))
    clear hR2 hlen
    go_enter Tryz.func5, Tryz.ntmps5
    go_wp2_with (at_builtin; refine wpList_append_row rfl (.tmp 12) (.tmp 13) rfl E w.heap.size _ 0 [] rfl hmade _ k _ rfl hR3 (ones_u32 _) (by unfold maxLen; omega) (by omega) (by simp) k (by omega) ?_; intro A1 c1 w1 hown1 hg1 hat1 hb1)
    go_ret
    exact ⟨_, rfl, by rw [HL.out]; simpa using hown1, ((Below.refl _ _).alloc (Nat.le_refl _) _).trans hb1⟩
  · have HL : Hid (l.take k = l) := Go.Lib.hid (List.take_of_length_le (by omega))
    have hR3 := hR.keep ((Below.refl _ _).alloc (Nat.le_refl _) (.cells #[] 29))
    clear hlen
    go_enter Tryz.func5, Tryz.ntmps5
    go_wp2_with (at_builtin; refine wpList_append_row rfl (.tmp 12) (.tmp 13) rfl E w.heap.size _ 0 [] rfl hmade _ l.length _ rfl hR3 (ones_u32 _) (by unfold maxLen; omega) (by omega) (by simp) l.length (by omega) ?_; intro A1 c1 w1 hown1 hg1 hat1 hb1)
    go_ret
    exact ⟨_, rfl, by rw [HL.out]; simpa using hown1, ((Below.refl _ _).alloc (Nat.le_refl _) _).trans hb1⟩
end Go.Proofs.YtcdbeljmniaofaaGreatDoor.Nums
