/- The program's Size and place. -/
import Derived.Test.YtaemhgmekggliaaNlriRef
namespace Go.Proofs.Ytaemhgmekggliaa.PR
open Go.RowKit Mem Pfx Oct

theorem size_any (p : Pf) (w : World) (ha : p.a < 4294967296) : Calls Try.prog 8 #[pV p] w (Tells (.int .i64 (sizeN p)) w) := by
  obtain ⟨a, n⟩ := p
  unfold pV
  dsimp only at ha ⊢
  have hb := below_new w (.cells #[.int .u32 (a : Int), .int .i64 n] 31)
  obtain ⟨c0, c1⟩ := cells_two w (.int .u32 (a : Int)) (.int .i64 n) 31
  have CG := Go.Lib.hid (fun (W : World) => good_any a n ha W)
  have hlt : w.heap.size < (w.alloc (.cells #[.int .u32 (a : Int), .int .i64 n] 31)).heap.size := by simp
  have HS := Go.Lib.hid (show sizeN ⟨a, n⟩ = if goodB a n then 1 + (n.toNat + 7) / 8 else 0 from rfl)
  by_cases hg : goodB a n = true
  · obtain ⟨h0, h1⟩ := goodB_len hg
    obtain ⟨k, rfl⟩ := Int.eq_ofNat_of_zero_le h0
    have hk : (k : Int) ≤ 32 := by omega
    have e : sizeN ⟨a, (k : Int)⟩ = 1 + (k + 7) / 8 := by rw [HS.out, if_pos hg]; simp
    rw [e]
    rw [hg] at CG
    have HB := Go.Lib.hid hb
    have z0 : (0 : Int) ≤ (k : Int) := by omega
    clear hg h0 h1 e HS hb
    go_enter Try.func8, Try.ntmps8
    go_wp2_with (go_at_call 24; refine (CG.out _).mono ?_; rintro e w1 ⟨rfl, hb1⟩; have c2 := (hb1.cell (p := ⟨w.heap.size, 1, none⟩) hlt).trans c1; have HB1 := Go.Lib.hid (HB.out.trans (hb1.mono HB.out.size)); clear hb1 c0 c1 hlt)
    go_ret
    refine ⟨?_, HB1.out⟩
    congr 2
    go_num
  · have e : sizeN ⟨a, n⟩ = 0 := by rw [HS.out, if_neg hg]
    rw [e]
    have hf : goodB a n = false := by simpa using hg
    rw [hf] at CG
    have HB := Go.Lib.hid hb
    clear hg hf e HS hb
    go_enter Try.func8, Try.ntmps8
    go_wp2_with (go_at_call 24; refine (CG.out _).mono ?_; rintro e w1 ⟨rfl, hb1⟩; have HB1 := Go.Lib.hid (HB.out.trans (hb1.mono HB.out.size)); clear hb1)
    go_ret
    exact ⟨rfl, HB1.out⟩
theorem place_any (i : Nat) (hi : i ≤ 3) (w : World) : Calls Try.prog 22 #[.int .i64 i] w (fun e w' => e = .returned (.int .i64 ((24 - 8 * i : Nat) : Int)) ∧ w' = w) := by
  have z0 : (0 : Int) ≤ (i : Int) := by omega
  have z1 : (i : Int) ≤ 3 := by omega
  have e : ((24 - 8 * i : Nat) : Int) = 24 - (i : Int) * 8 := by omega
  rw [e]
  clear e hi
  go_enter Try.func22, Try.ntmps22
  go_wp2
  go_ret
  exact ⟨rfl, rfl⟩
end Go.Proofs.Ytaemhgmekggliaa.PR
