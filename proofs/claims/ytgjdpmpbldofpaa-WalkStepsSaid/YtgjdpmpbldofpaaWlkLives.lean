/- The law's lives. -/
import Derived.Test.YtgjdpmpbldofpaaWlkMerge
import Derived.Test.YtgjdpmpbldofpaaWlkSpan
namespace Go.Proofs.Ytgjdpmpbldofpaa.Wlk
open Go.RowKit Mem Pfx PR Oct

def pA : Pf := ⟨167772160, 9⟩
def pB : Pf := ⟨176160768, 9⟩
def pC : Pf := ⟨167772160, 8⟩
theorem lv1 : mergeL (topsL (sortP [pA, pB])) = [pC] := by kernel_rfl
theorem lv2 : spanL (topsL (sortP [pC])) = 16777216 := by kernel_rfl
theorem okAB : Oks [pA, pB] := fun p hp => by
  rcases List.mem_cons.1 hp with rfl | hp
  · exact ⟨by decide, by decide⟩
  · rw [List.mem_singleton] at hp
    subst hp
    exact ⟨by decide, by decide⟩
theorem okC : Oks [pC] := fun p hp => by
  rw [List.mem_singleton] at hp
  subst hp
  exact ⟨by decide, by decide⟩
set_option maxHeartbeats 4000000 in
theorem lives_any (w : World) : Calls Try.prog 15 #[] w (Tells (.bool true) w) := by
  have hrow : Pfxs (w.alloc (.cells #[.int .u32 (167772160 : Int), .int .i64 9, .int .u32 (176160768 : Int), .int .i64 9] 35)) (.slice (some ⟨w.heap.size, 0, none⟩) 2 2) [pA, pB] :=
    Pfxs.of_own (base := w.heap.size) (e := 35) ⟨rfl, .inr ⟨w.heap.size, 2, _, rfl, Nat.le_refl _, heap_alloc_new _ _, Nat.le_refl _, by decide, rfl, rfl⟩⟩ okAB
  have CM := Go.Lib.hid (merge_any _ _ _ hrow (by decide))
  rw [lv1] at CM
  have HB := Go.Lib.hid (below_new w (.cells #[.int .u32 (167772160 : Int), .int .i64 9, .int .u32 (176160768 : Int), .int .i64 9] 35))
  have CS := Go.Lib.hid (fun (W : World) (v : Value) (h : Pfxs W v [pC]) => show Calls Try.prog 10 #[v] W (Tells (.int .i64 16777216) W) from by
    have := span_any v _ W h (by decide)
    rw [lv2] at this
    exact this)
  clear hrow
  go_enter Try.func15, Try.ntmps15
  go_wp2_with (first
    | (go_at_call 6; (with_reducible refine (CM.out).mono ?_); rintro e w1 ⟨A, c, rfl, ho, hb⟩; have B1 := Go.Lib.hid (HB.out.trans (hb.mono HB.out.size)); have hp := (show Pfxs w1 (.slice A 1 c) [pC] from Pfxs.of_own ho okC); have HP := Go.Lib.hid hp; obtain ⟨b, off, rfl, hbl, k0, k1⟩ := hp.at_ (i := 0) (p := pC) rfl; rw [show off + 0 * 2 = off by omega] at k0 k1; (simp only [pC] at k0 k1); clear ho hb)
    | (go_at_call 10; (with_reducible refine (CS.out _ _ HP.out).mono ?_); rintro e w2 ⟨rfl, hb2⟩; have B2 := Go.Lib.hid (B1.out.trans (hb2.mono B1.out.size)); clear hb2))
  go_ret
  exact ⟨rfl, B2.out⟩
end Go.Proofs.Ytgjdpmpbldofpaa.Wlk
