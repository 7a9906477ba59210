/- The marker of a message: one byte, sixteen times. -/
import Derived.Test.YtgeekckoepnccaaOctRead
import Derived.Lib.MakeNoZero
import Derived.Laws.CopyOwn
import Derived.Laws.Externs
import Derived.Deep.RegionHeld3
import Derived.KernelRfl
namespace Go.Proofs.Ytgeekckoepnccaa.Frm
open Go.RowKit Mem Oct
open Go.Lib (hid)

/-- Bytes are given. -/
def Reads8 (l : List Nat) (w : World) (e : Ending) (w' : World) : Prop := ∃ A c, e = .returned (.slice A l.length c) ∧ U8s w' (.slice A l.length c) l ∧ Below w.heap.size w w'
/-- A block whose first m bytes are 255. -/
def ffs (cs : List Value) (m : Nat) : List Value := List.replicate m (Value.int .u8 255) ++ cs.drop m
theorem ffs_len {cs : List Value} {m : Nat} (h : m ≤ cs.length) : (ffs cs m).length = cs.length := by simp [ffs]; omega
theorem ffs_more {cs : List Value} {m : Nat} (j : Nat) : splice (ffs cs m) m (List.replicate j (Value.int .u8 255)) = ffs cs (m + j) := by
  unfold splice ffs
  rw [List.length_replicate, List.take_left' (by simp), List.drop_append, List.length_replicate, List.drop_of_length_le (by simp), List.nil_append, List.drop_drop, ← List.append_assoc, List.replicate_append_replicate]
  congr 2
  omega
theorem ffs_cell {cs : List Value} {m : Nat} {w : World} {g : Nat} {t : TypeId} (h : w.heap[g]? = some (.cells (ffs cs m).toArray t (0, 0))) (j : Nat) (hj : j < m) : w.cell? ⟨g, j, none⟩ = some (.int .u8 255) := by
  have h3 : (ffs cs m)[j]? = some (.int .u8 255) := by
    unfold ffs
    rw [List.getElem?_append_left (by simpa using hj), List.getElem?_replicate, if_pos hj]
  simp [World.cell?, h, h3]
theorem mul64_at (w : World) : Calls Try.prog 46 #[.int .u64 1, .int .u64 16] w fun e w' => e = .returned (.tuple #[.int .u64 0, .int .u64 16]) ∧ w = w' := by
  have b1 : bits .and .u64 1 4294967295 = 1 := by decide
  have b2 : bits .and .u64 16 4294967295 = 16 := by decide
  have b3 : bits .and .u64 0 4294967295 = 0 := by decide
  go_enter Try.func46, Try.ntmps46
  go_wp2
  go_ret2
  exact ⟨rfl, rfl⟩
theorem mul_at (w : World) : Calls Try.prog 42 #[.int .u64 1, .int .u64 16] w fun e w' => e = .returned (.tuple #[.int .u64 0, .int .u64 16]) ∧ w = w' := by
  have C := hid mul64_at
  go_enter Try.func42, Try.ntmps42
  go_wp2_with (go_at_call 46; refine (C.out _).mono ?_; rintro e w' ⟨rfl, rfl⟩)
  go_ret2
  exact ⟨rfl, rfl⟩
set_option maxRecDepth 100000 in
set_option maxHeartbeats 4000000 in
theorem repeat_ff (v : Value) (w : World) (hv : U8s w v [255]) : Calls Try.prog 39 #[v, .int .i64 16] w (Reads8 (List.replicate 16 255) w) := by
  obtain ⟨i0, E0⟩ := elem8
  obtain ⟨A, c, rfl, hlc, hc⟩ := hv.form
  obtain ⟨b, off, x, rfl, hb, hx, hx2, hcell⟩ := hv.at_ (show 0 < [255].length by decide)
  obtain rfl : 255 = x := by simpa using hx
  have CM := hid mul_at
  obtain ⟨cs, hrun, hle, -⟩ : ∃ cs : Array Value, (Extern.BytealgMakeNoZero.makeNoZero #[3] #[25] #[.int .i64 16]).run Try.prog w = .ok (.slice (some ⟨w.heap.size, 0, none⟩) 16 cs.size) ((w.alloc (.cells cs 5)).drewN 2) ∧ 16 ≤ cs.size ∧ (16 ≤ maxLen → cs.size ≤ maxLen) := Lib.run_makeNoZero (P := Try.prog) w #[3] 25 5 Try.underlying25 16 (by decide)
  have hcall : (callFunc 43 #[.int .i64 16]).run Try.prog w = .ok (.value (.slice (some ⟨w.heap.size, 0, none⟩) 16 cs.size)) ((w.alloc (.cells cs 5)).drewN 2) := by
    rw [run_callFunc_extern Try.func43 (by kernel_rfl) (by kernel_rfl) (by kernel_rfl) (e := Extern.BytealgMakeNoZero.makeNoZero #[3] #[25]) (by kernel_rfl), hrun]
    rfl
  clear hrun
  have i1 : (16 : Int) ≤ (cs.size : Int) := by omega
  have hal : Below w.heap.size w ((w.alloc (.cells cs 5)).drewN 2) := ((Below.refl _ w).alloc (Nat.le_refl _) _).drew.drew
  have hg0 : ((w.alloc (.cells cs 5)).drewN 2).heap[w.heap.size]? = some (.cells (ffs cs.toList 0).toArray 5 (0, 0)) := (heap_alloc_new _ _).trans (by simp [ffs])
  have hc2 : ((w.alloc (.cells cs 5)).drewN 2).cell? ⟨b, off, none⟩ = some (.int .u8 255) := (hal.cell (p := ⟨b, off, none⟩) hb).trans hcell
  have HG0 := hid hg0
  have HC2 := hid hc2
  have HB0 := hid hal
  have HLE := hid (show 16 ≤ cs.toList.length from by simpa using hle)
  have hsz : (Try.prog.info? 5).map (·.size) = some 1 := by rw [E0.hi, Option.map_some, E0.hsize]
  have HSZ := hid hsz
  clear hg0 hc2 hal hsz hcell hx hx2 hv hle
  go_enter Try.func39, Try.ntmps39
  go_wp2_with (first
    | (go_at_call 42; refine (CM.out _).mono ?_; rintro e w' ⟨rfl, rfl⟩)
    | (refine wpList_copy_splice rfl (.tmp 58) (.tmp 59) 25 25 rfl 5 Try.underlying25 HSZ.out (some ⟨w.heap.size, 0, none⟩) (some ⟨b, off, none⟩) 16 16 1 c rfl rfl w.heap.size 0 (ffs cs.toList 0) 5 HG0.out [.int .u8 255] rfl (fun _ => ⟨rfl, _, rfl, fun j u hj => ?_⟩) ?_ ?_ w.heap.size w HB0.out (Nat.le_refl _) ?_
       · match j, hj with
         | 0, hj => injection hj with hj; subst hj; exact HC2.out
       · rw [ffs_len (Nat.zero_le _)]; have := HLE.out; simp; omega
       · intro u hu
         rw [List.mem_singleton.1 hu]; rfl
       intro w2 hg2 hb2
       rw [show [Value.int .u8 255] = List.replicate 1 (Value.int .u8 255) from rfl, ffs_more 1, Nat.zero_add] at hg2))
  go_loopw [10] (fun v10 wr => ∃ m : Nat, 0 < m ∧ m ≤ 16 ∧ v10 = .int .i64 m ∧ Hid (wr.heap[w.heap.size]? = some (.cells (ffs cs.toList m).toArray 5 (0, 0))) ∧ Hid (Below w.heap.size w wr)) (fun v10 _ => 16 - (intOf v10).toNat)
  case atStart => exact ⟨1, by decide, by decide, rfl, hg2, hid hb2⟩
  case round =>
    obtain ⟨m, hm0, hm, rfl, hg, hb⟩ := hrel
    by_cases hlt : m < 16
    · obtain ⟨j, hj⟩ : ∃ j, j = Nat.min m (16 - m) := ⟨_, rfl⟩
      have hj1 : j ≤ m := hj ▸ Nat.min_le_left _ _
      have hj2 : j ≤ 16 - m := hj ▸ Nat.min_le_right _ _
      have hj3 : 0 < j := by
        have : Nat.min m (16 - m) = min m (16 - m) := rfl
        omega
      have HJ := hid hj
      clear hj
      have z0 : (0 : Int) ≤ (m : Int) := by omega
      have z1 : (m : Int) ≤ 16 := by omega
      have z2 : (m : Int) < 16 := by omega
      have z3 : ¬ 16 = m := by omega
      have z4 : ((m : Int) ≤ 8192) := by omega
      have hwr : IntKind.i64.wrap ((m : Int) + (j : Int)) = ((m + j : Nat) : Int) := by rw [IntKind.wrap_i64]; omega
      go_wp2
      go_region_held3 (fun _ => True) (trivial) (first
        | (refine step_copy_splice rfl (.tmp 70) (.tmp 73) 25 25 rfl 5 Try.underlying25 HSZ.out (some ⟨w.heap.size, m, none⟩) (some ⟨w.heap.size, 0, none⟩) (16 - m) (16 - m) m 16 ?_ ?_ w.heap.size m (ffs cs.toList m) 5 hg.out (List.replicate j (.int .u8 255)) ?_ ?_ ?_ ?_ w.heap.size w hb.out.drew (Nat.le_refl _) ?_
           · first | rfl | simp [z3]
           · rfl
           · rw [List.length_replicate]; exact HJ.out
           · intro _
             refine ⟨rfl, _, rfl, fun i u hi => ?_⟩
             rw [List.getElem?_replicate] at hi
             split at hi
             · injection hi with hi
               subst hi
               rw [show (⟨w.heap.size, 0, none⟩ : Addr).add i = ⟨w.heap.size, i, none⟩ by by_cases h : i = 0 <;> simp [Addr.add, h]]
               exact ffs_cell (show wr.drew.heap[w.heap.size]? = _ from hg.out) i (by omega)
             · cases hi
           · rw [List.length_replicate, ffs_len (Nat.le_trans hm HLE.out)]; have := HLE.out; omega
           · intro u hu
             rw [(List.mem_replicate.1 hu).2]; rfl
           intro w3 hg3 hb3
           rw [ffs_more j] at hg3
           rw [List.length_replicate]))
      all_goals go_wp2
      all_goals go_roundw
      case rel => exact ⟨m + j, by omega, by omega, rfl, hg3, hid hb3⟩
      case measure => simp [intOf]; omega
    · obtain rfl : m = 16 := by omega
      go_wp2
      go_ret
      have hs : w.heap.size < wr.heap.size := (Array.getElem?_eq_some_iff.1 hg.out).1
      refine ⟨some ⟨w.heap.size, 0, none⟩, 16, rfl, ⟨⟨by rw [cells8_len]; rfl, some ⟨w.heap.size, 0, none⟩, 16, by rw [List.length_replicate], by simp, by unfold maxLen; omega, fun _ => ⟨w.heap.size, 0, rfl, hs, fun i x hx => ?_⟩⟩, fun y hy => by rw [(List.mem_replicate.1 hy).2]; decide⟩, hb.out⟩
      unfold cells8 at hx
      rw [List.map_replicate, List.getElem?_replicate] at hx
      split at hx
      · injection hx with hx
        subst hx
        rw [Nat.zero_add]
        exact ffs_cell hg.out i (by omega)
      · cases hx
/-- The marker. -/
theorem marker_any (w : World) : Calls Try.prog 26 #[] w (Reads8 (List.replicate 16 255) w) := by
  have hal : Below w.heap.size w (w.alloc (.cells #[.int .u8 255] 5)) := (Below.refl _ w).alloc (Nat.le_refl _) _
  have HA := hid hal
  have CR := hid (fun v W (h : U8s W v [255]) => repeat_ff v W h)
  have HL := hid (show U8s (w.alloc (.cells #[.int .u8 255] 5)) (.slice (some ⟨w.heap.size, 0, none⟩) 1 1) [255] from U8s.of_own (base := 0) (l := [255]) ⟨rfl, .inr ⟨w.heap.size, 1, #[.int .u8 255], rfl, Nat.zero_le _, heap_alloc_new _ _, Nat.le_refl _, by decide, rfl, rfl⟩⟩ (by intro y hy; simp at hy; omega))
  clear hal
  go_enter Try.func26, Try.ntmps26
  go_wp2_with (have h := HL.out; go_at_call 39; refine (CR.out _ _ h).mono ?_; rintro e x ⟨A, c, rfl, hu, hb⟩; have U := hid hu; have B := hid (HA.out.trans (hb.mono HA.out.size)); clear hu hb h)
  go_ret
  exact ⟨A, c, rfl, U.out, B.out⟩
end Go.Proofs.Ytgeekckoepnccaa.Frm
