/- The laws' small living call: one prefix's bytes. -/
import Derived.Test.YtaemhgmekggliaaNlriEncode
import Derived.Test.YtaemhgmekggliaaNlriDecode
namespace Go.Proofs.Ytaemhgmekggliaa.PR
open Go.RowKit Mem Pfx Oct

theorem enc_ten : encs [⟨167772160, 8⟩] = [8, 10] := by decide
theorem lit1 (w : World) (p : Pf) (hp : p.ok) (t : TypeId) : Pfxs (w.alloc (.cells #[.int .u32 p.a, .int .i64 p.n] t)) (.slice (some ⟨w.heap.size, 0, none⟩) 1 1) [p] :=
  ⟨own_one2 _ _ _, fun q hq => by simp only [List.mem_singleton] at hq; subst hq; exact hp⟩
set_option maxRecDepth 100000 in
set_option maxHeartbeats 2000000 in
theorem lives7_any (w : World) : Calls Try.prog 11 #[] w (Tells (.bool true) w) := by
  have hok : Pf.ok ⟨167772160, 8⟩ := ⟨by decide, by decide⟩
  have hb0 : Below w.heap.size w (w.alloc (.cells #[.int .u32 167772160, .int .i64 8] 31)) := (Below.refl _ w).alloc (Nat.le_refl _) _
  have CE := Go.Lib.hid (show Calls Try.prog 7 #[.slice (some ⟨w.heap.size, 0, none⟩) 1 1] (w.alloc (.cells #[.int .u32 167772160, .int .i64 8] 31)) (fun e w' => ∃ A c, e = .returned (.tuple #[.slice A 2 c, .int .i64 0]) ∧ U8s w' (.slice A 2 c) [8, 10] ∧ Below w.heap.size w w') from
    (encode_any _ [⟨167772160, 8⟩] _ (lit1 w ⟨167772160, 8⟩ hok _) (by decide)).mono fun e w' h => by
      rcases h with ⟨h1, _⟩ | ⟨_, A, c, h1, h2, h3⟩
      · exact absurd h1 (by decide)
      · rw [enc_ten] at h1 h2
        exact ⟨A, c, h1, U8s.of_own h2 (by unfold Small; decide), hb0.trans (h3.mono hb0.size)⟩)
  have CS := Go.Lib.hid (fun W => show Calls Try.prog 8 #[.agg #[.int .u32 0, .int .i64 32]] W (Tells (.int .i64 5) W) from size_any ⟨0, 32⟩ W (by decide))
  have hs : ((txt [8, 10]).toList == ([8, 10] : List UInt8)) = true := by rw [txt_list]; decide
  clear hok hb0
  go_enter Try.func11, Try.ntmps11
  go_wp2_with (first
    | (go_at_call 7; refine (CE.out).mono ?_; rintro e w1 ⟨A, c, rfl, hU, hb⟩; have B1 := Go.Lib.hid hb; have t1 := text8 hU; clear hU hb)
    | (go_at_call 8; refine (CS.out _).mono ?_; rintro e w2 ⟨rfl, hb⟩; have B2 := Go.Lib.hid (B1.out.trans (hb.mono B1.out.size)); clear hb))
  trace_state
  go_ret
  exact ⟨rfl, B2.out⟩
theorem decode_any (v : Value) (b : List Nat) (w : World) (hv : U8s w v b) (hl : b.length ≤ 100000) : Calls Try.prog 12 #[v] w (DecP b w) :=
  (decode_own v b w hv hl).mono fun e w' h => by
    rcases h with ⟨h1, h2, h3⟩ | ⟨L, A, c, h1, h2, h3, h4, h5⟩
    · exact .inl ⟨h1, _, _, h2, h3⟩
    · exact .inr ⟨L, A, c, h1, h2, Pfxs.of_own h3 h4, h5⟩
end Go.Proofs.Ytaemhgmekggliaa.PR
