/- The laws' small living call. -/
import Derived.Test.YtplolahbjebbaaaDoorNtcEnc
import Derived.Test.YtplolahbjebbaaaDoorNtcText
namespace Go.Proofs.YtplolahbjebbaaaDoor.Ntc
open Go.RowKit Mem Oct Att Pfx
open Go.Lib (hid)

set_option maxRecDepth 100000 in
set_option maxHeartbeats 1000000 in
theorem lives11_any (w : World) : Calls Tryd.prog 13 #[] w (Tells (.bool true) w) := by
  have HN := hid (fun W => (show Note W (.agg #[.int .i64 6, .int .i64 2, .slice none 0 0]) ⟨6, 2, []⟩ from ⟨by decide, by decide, _, rfl, U8s.nil W⟩))
  have CC := hid (fun W => close_any 2 W)
  have CE := hid (fun W => show Calls Tryd.prog 7 #[.agg #[.int .i64 6, .int .i64 2, .slice none 0 0]] W (EncF [6, 2] 0 W) from enc_ok _ ⟨6, 2, []⟩ W (HN.out W) (by decide))
  have CT := hid (fun W => show Calls Tryd.prog 15 #[.agg #[.int .i64 6, .int .i64 2, .slice none 0 0]] W (Tells (.string ⟨#[99, 101, 97, 115, 101, 32, 50]⟩) W) from by
    have h := name_any _ ⟨6, 2, []⟩ W (HN.out W) (.inl (by decide))
    rw [show nameB 6 2 = [99, 101, 97, 115, 101, 32, 50] by unfold nameB kindB Lib.itoa; simp [Lib.decDigits]] at h
    exact h)
  have hs : ((txt [6, 2]).toList == ([6, 2] : List UInt8)) = true := by rw [txt_list]; decide
  go_enter Tryd.func13, Tryd.ntmps13
  go_wp2_with (first
    | (go_at_call 17; refine (CC.out _).mono ?_; rintro e x ⟨rfl, hb⟩; have B1 := hid hb; clear hb)
    | (go_at_call 7; refine (CE.out _).mono ?_; rintro e x ⟨A, c, rfl, ho, hb⟩; have t : (convert 22 9 (.slice A 2 c)).run Tryd.prog x = .ok (.string (txt [6, 2])) x := text8 (U8s.of_own ho (by unfold Small; decide)); have B2 := hid (B1.out.trans (hb.mono B1.out.size)); clear ho hb)
    | (go_at_call 15; refine (CT.out _).mono ?_; rintro e x ⟨rfl, hb⟩; have B3 := hid (B2.out.trans (hb.mono B2.out.size)); clear hb))
  go_ret
  exact ⟨rfl, B3.out⟩
end Go.Proofs.YtplolahbjebbaaaDoor.Ntc
