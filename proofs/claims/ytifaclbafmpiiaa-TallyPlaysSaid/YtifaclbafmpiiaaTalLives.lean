/- The law's small living call. -/
import Derived.Test.YtifaclbafmpiiaaTalPlus
import Derived.Test.YtifaclbafmpiiaaTalPoint
namespace Go.Proofs.Ytifaclbafmpiiaa.Tal
open Go.RowKit Mem Go.Maps

theorem Moved.low {F F' : Nat → Prop} {W W' : World} {n : Nat} (h : Moved F F' W W') (hn : ∀ k, F k → n ≤ k) (hs : n ≤ W.heap.size) : ∀ k, F' k → n ≤ k := fun k hk => (h.new k hk).elim (hn k) (fun h2 => Nat.le_trans hs h2)
set_option maxRecDepth 100000 in
set_option maxHeartbeats 2000000 in
theorem lives_any (w : World) : Calls Try.prog 19 #[] w (Tells (.bool true) w) := by
  have CN := Go.Lib.hid new_any
  have CA1 := Go.Lib.hid (fun v F W (h : T W v [] F) => show Calls Try.prog 12 #[v, .int .u32 7, .int .i64 2, .int .i64 1] W (AddF T v F [⟨7, 2, 1⟩] W) from plus_any v [] F 7 2 1 0 W (by omega) h (by omega) (by omega) (by simp) (fun r hr => by simp at hr) (by omega))
  have CA2 := Go.Lib.hid (fun v F W (h : T W v [⟨7, 2, 1⟩] F) => show Calls Try.prog 12 #[v, .int .u32 7, .int .i64 1, .int .i64 0] W (AddF T v F [⟨7, 3, 1⟩] W) from plus_any v [⟨7, 2, 1⟩] F 7 1 0 2 W (by omega) h (by omega) (by omega) (by simp) (fun r hr => by simp at hr; subst hr; simp) (by omega))
  have CO := Go.Lib.hid (fun v F W (h : T W v [⟨7, 3, 1⟩] F) => show Calls Try.prog 17 #[v, .int .u32 7] W (Tells (.tuple #[.int .i64 3, .int .i64 1]) W) from of_any v [⟨7, 3, 1⟩] F 7 W (by omega) h)
  have CF := Go.Lib.hid (fun W => show Calls Try.prog 21 #[.int .i64 3, .int .i64 4] W (Tells (.int .i64 25) W) from far_any 3 4 W)
  go_enter Try.func19, Try.ntmps19
  go_wp2_with (first
    | (go_at_call 8; refine (CN.out _).mono ?_; rintro e w1 ⟨v, F, rfl, hT, hF, hb⟩; have HT1 := Go.Lib.hid hT; have HF1 := Go.Lib.hid hF; have HB1 := Go.Lib.hid hb; clear hT hF hb)
    | (go_at_call 12; have h := HT2.out; refine (CA2.out _ _ _ h).mono ?_; rintro e w3 ⟨F3, rfl, hT3, hm3⟩; have HT3 := Go.Lib.hid hT3; have HM3 := Go.Lib.hid hm3; clear hT3 hm3 h)
    | (go_at_call 12; have h := HT1.out; refine (CA1.out _ _ _ h).mono ?_; rintro e w2 ⟨F2, rfl, hT2, hm2⟩; have HT2 := Go.Lib.hid hT2; have HM2 := Go.Lib.hid hm2; clear hT2 hm2 h)
    | (go_at_call 17; have h := HT3.out; refine (CO.out _ _ _ h).mono ?_; rintro e w4 ⟨rfl, hb4⟩; have HB4 := Go.Lib.hid hb4; clear hb4 h)
    | (go_at_call 21; refine (CF.out _).mono ?_; rintro e w5 ⟨rfl, hb5⟩; have HB5 := Go.Lib.hid hb5; clear hb5))
  go_ret
  have s1 := HB1.out.size
  have b2 := HM2.out.below HF1.out s1
  have f2 := HM2.out.low HF1.out s1
  have s2 := Nat.le_trans s1 HM2.out.size
  have b3 := HM3.out.below f2 s2
  have s3 := Nat.le_trans s2 HM3.out.size
  have b4 := HB4.out.mono s3
  have b5 := HB5.out.mono (Nat.le_trans s3 HB4.out.size)
  exact ⟨rfl, (((HB1.out.trans b2).trans b3).trans b4).trans b5⟩
end Go.Proofs.Ytifaclbafmpiiaa.Tal
