/- The laws' small living call. -/
import Derived.Test.YtkkfnpacejdlnaaOpnEncP
namespace Go.Proofs.Ytkkfnpacejdlnaa.Opn
open Go.RowKit Mem Oct Att

theorem good_o9 : goodO ⟨1, 90, 5, false⟩ = true := by decide
theorem enc_o9 : encO ⟨1, 90, 5, false⟩ = [4, 0, 1, 0, 90, 0, 0, 0, 5, 0] := by decide +kernel
theorem op_ok (a : Nat) (h : Int) (r : Nat) (f : Bool) (ha : a < 4294967296) (hh : (Lit.int .i64 h).wf = true) (hr : r < 4294967296) : (Op.mk a h r f).ok := ⟨ha, hh, hr⟩
set_option maxRecDepth 100000 in
set_option maxHeartbeats 2000000 in
theorem lives9_any (w : World) : Calls Try.prog 10 #[] w (Tells (.bool true) w) := by
  have CE := Go.Lib.hid (show Calls Try.prog 7 #[.agg #[.int .u32 1, .int .i64 90, .int .u32 5, .bool false]] w (fun e w' => ∃ A c, e = .returned (.tuple #[.slice A 10 c, .int .i64 0]) ∧ U8s w' (.slice A 10 c) [4, 0, 1, 0, 90, 0, 0, 0, 5, 0] ∧ Below w.heap.size w w') from
    (encode_any ⟨1, 90, 5, false⟩ w (op_ok _ _ _ _ (by decide) (by decide) (by decide))).mono fun e w' h => by
      rw [if_pos good_o9] at h
      obtain ⟨A, c, h1, h2, h3⟩ := h
      rw [enc_o9] at h1 h2
      exact ⟨A, c, h1, U8s.of_own h2 (by unfold Small; decide), h3⟩)
  have CH := Go.Lib.hid (fun W => show Calls Try.prog 18 #[.int .i64 90, .int .i64 180] W (Tells (.int .i64 90) W) from hold_any 90 180 W)
  have CK := Go.Lib.hid (fun W => show Calls Try.prog 19 #[.int .i64 90] W (Tells (.int .i64 30) W) from keep_any 90 (by decide) W)
  have hs : ((txt [4, 0, 1, 0, 90, 0, 0, 0, 5, 0]).toList == ([4, 0, 1, 0, 90, 0, 0, 0, 5, 0] : List UInt8)) = true := by rw [txt_list]; decide
  go_enter Try.func10, Try.ntmps10
  go_wp2_with (first
    | (go_at_call 7; refine (CE.out).mono ?_; rintro e w1 ⟨A, c, rfl, hU, hb⟩; have B1 := Go.Lib.hid hb; have t1 := text8 hU; clear hU hb)
    | (go_at_call 18; refine (CH.out _).mono ?_; rintro e w2 ⟨rfl, hb⟩; have B2 := Go.Lib.hid (B1.out.trans (hb.mono B1.out.size)); clear hb)
    | (go_at_call 19; refine (CK.out _).mono ?_; rintro e w3 ⟨rfl, hb⟩; have B3 := Go.Lib.hid (B2.out.trans (hb.mono B2.out.size)); clear hb))
  go_ret
  exact ⟨rfl, B3.out⟩
end Go.Proofs.Ytkkfnpacejdlnaa.Opn
