/- The reference's Set, in memory of its own. -/
import Derived.Test.YtcdbeljmniaofaaGreatDoorSetRef3
namespace Go.Proofs.YtcdbeljmniaofaaGreatDoor.Nums
open Go.RowKit Mem Rise

/-- What Put gives of a row of the call's own. -/
def PutOwn (base : Nat) (l : List Nat) (n : Nat) (w : World) (e : Ending) (w' : World) : Prop :=
  ∃ v, e = .returned v ∧ w'.ownsRow base 29 1 v (put l n).length ((put l n).map fun n : Nat => Value.int .u32 n) ∧ Below w.heap.size w w'
theorem refPut_own (base : Nat) (v : Value) (l : List Nat) (n : Nat) (w : World) (hown : w.ownsRow base 29 1 v l.length (l.map fun n : Nat => Value.int .u32 n)) (hbase : base ≤ w.heap.size) (hl : ∀ y ∈ l, y < 4294967296) (hlen : l.length ≤ 2000) :
    Calls Tryz.prog 28 #[v, .int .u32 n] w (PutOwn base l n w) := by
  have hv := U32s.of_own hown hl
  by_cases hn : n ∈ l
  · have e : put l n = l := by unfold put; rw [if_pos hn]
    exact (refPut_same v l n w hv hn).mono fun _ _ ⟨he, hw⟩ => ⟨v, he, by rw [e, ← hw]; exact hown, hw ▸ Below.refl _ _⟩
  · exact (refPut_new v l n w hv hn hlen).mono fun _ _ ⟨v1, he, ho, hb⟩ => ⟨v1, he, own_base ho hbase, hb⟩
set_option maxHeartbeats 1000000 in
theorem refSet_own (v : Value) (l : List Nat) (w : World) (hv : U32s w v l) (hlen : l.length ≤ 1000) :
    Calls Tryz.prog 18 #[v] w (Gives32 29 (setOf l) w) := by
  have HV := Go.Lib.hid hv
  obtain ⟨A, c, rfl, hlc, hc, hl, hat⟩ := hv.open_
  have CP := Go.Lib.hid refPut_own
  have HL := Go.Lib.hid hl
  clear hl hat hv
  have h0 : (w.alloc (.cells #[] 29)).ownsRow w.heap.size 29 1 (.slice (some ⟨w.heap.size, 0, none⟩) 0 0) 0 [] := own_blk (Nat.le_refl _) (heap_alloc_new _ _)
  go_enter Tryz.func18, Tryz.ntmps18
  go_wp2
  go_loopw [3, 4] (fun v i wr => ∃ k : Nat, k ≤ l.length ∧ i = .int .i64 k ∧ wr.ownsRow w.heap.size 29 1 v (setOf (l.take k)).length ((setOf (l.take k)).map fun n : Nat => Value.int .u32 n) ∧ Below w.heap.size w wr) (fun _ i _ => l.length - (intOf i).toNat)
  case atStart => exact ⟨0, Nat.zero_le _, rfl, by simpa [setOf] using h0, (Below.refl _ _).alloc (Nat.le_refl _) _⟩
  case round =>
    obtain ⟨k, hk, rfl, hs, hb⟩ := hrel
    by_cases hlt : k < l.length
    · obtain ⟨b, off, x, rfl, hbw, hx, hx32, hcell⟩ := ((HV.out).keep hb).at_ hlt
      have HX := Go.Lib.hid (take_snoc hx)
      have hlk : (setOf (l.take k)).length ≤ 2000 := by
        have := length_setOf (l.take k)
        have : (l.take k).length ≤ l.length := List.length_take_le' _ _
        omega
      have C := Go.Lib.hid (CP.out w.heap.size _ _ x wr hs hb.size (fun y hy => HL.out y (List.mem_of_mem_take ((mem_setOf _ y).1 hy))) hlk)
      clear hx hlk
      go_wp2_with (go_at_call 28; refine (C.out).mono ?_; rintro e w1 ⟨v1, rfl, hs1, hb1⟩)
      go_roundw
      case rel => exact ⟨k + 1, by omega, by go_num, by rw [HX.out, setOf_snoc]; exact hs1, hb.trans (hb1.mono hb.size)⟩
      case measure => simp [intOf]; omega
    · have HK := Go.Lib.hid (show k = l.length by omega)
      go_wp2
      go_ret
      exact ⟨_, rfl, by have := hs; rw [HK.out, List.take_length] at this; exact this, hb⟩
end Go.Proofs.YtcdbeljmniaofaaGreatDoor.Nums
