/- OpenTimes' walk. -/
import Derived.Test.YtkkfnpacejdlnaaOpnLives
namespace Go.Proofs.Ytkkfnpacejdlnaa.Opn
open Go.RowKit Mem Oct Att

set_option maxRecDepth 100000 in
set_option maxHeartbeats 2000000 in
theorem times_a (a b : Int) (w : World) (wa : (Lit.int .i64 a).wf = true) (z1 : a < 1) : Calls Try.prog 6 #[.int .i64 a, .int .i64 b] w (Tells (.bool true) w) := by
  have CH := Go.Lib.hid (fun W => hold_any a b W)
  have CJ := Go.Lib.hid (fun W => hold_any b a W)
  have CK := Go.Lib.hid (fun W => keep_any a wa W)
  have CL := Go.Lib.hid lives9_any
  rw [show holdN a b = 0 from by unfold holdN; omega] at CH
  rw [show holdN b a = 0 from by unfold holdN; omega] at CJ
  rw [show keepN a = 0 from by unfold keepN; omega] at CK
  have B0 := Go.Lib.hid (Below.refl w.heap.size w)
  have z2 : a < 3 := by omega
  clear wa
  go_enter Try.func6, Try.ntmps6
  go_wp2_with (first
    | (have h := B0.out; go_at_call 18; refine (CH.out _).mono ?_; rintro e x ⟨rfl, hb⟩; have B1 := Go.Lib.hid (h.trans (hb.mono h.size)); clear hb h B0)
    | (have h := B1.out; go_at_call 19; refine (CK.out _).mono ?_; rintro e x ⟨rfl, hb⟩; have B2 := Go.Lib.hid (h.trans (hb.mono h.size)); clear hb h B1)
    | (have h := B2.out; go_at_call 18; refine (CJ.out _).mono ?_; rintro e x ⟨rfl, hb⟩; have B2 := Go.Lib.hid (h.trans (hb.mono h.size)); clear hb h)
    | (have h := B2.out; go_at_call 10; refine (CL.out _).mono ?_; rintro e x ⟨rfl, hb⟩; have B3 := Go.Lib.hid (h.trans (hb.mono h.size)); clear hb h))
  go_ret
  exact ⟨rfl, B3.out⟩
set_option maxRecDepth 100000 in
set_option maxHeartbeats 2000000 in
theorem times_b (a b : Int) (w : World) (wa : (Lit.int .i64 a).wf = true) (z1 : 1 ≤ a) (z2 : b < 1) (z3 : a < 3) : Calls Try.prog 6 #[.int .i64 a, .int .i64 b] w (Tells (.bool true) w) := by
  have CH := Go.Lib.hid (fun W => hold_any a b W)
  have CJ := Go.Lib.hid (fun W => hold_any b a W)
  have CK := Go.Lib.hid (fun W => keep_any a wa W)
  have CL := Go.Lib.hid lives9_any
  rw [show holdN a b = 0 from by unfold holdN; omega] at CH
  rw [show holdN b a = 0 from by unfold holdN; omega] at CJ
  rw [show keepN a = 0 from by unfold keepN; omega] at CK
  have B0 := Go.Lib.hid (Below.refl w.heap.size w)
  clear wa
  go_enter Try.func6, Try.ntmps6
  go_wp2_with (first
    | (have h := B0.out; go_at_call 18; refine (CH.out _).mono ?_; rintro e x ⟨rfl, hb⟩; have B1 := Go.Lib.hid (h.trans (hb.mono h.size)); clear hb h B0)
    | (have h := B1.out; go_at_call 19; refine (CK.out _).mono ?_; rintro e x ⟨rfl, hb⟩; have B2 := Go.Lib.hid (h.trans (hb.mono h.size)); clear hb h B1)
    | (have h := B2.out; go_at_call 18; refine (CJ.out _).mono ?_; rintro e x ⟨rfl, hb⟩; have B2 := Go.Lib.hid (h.trans (hb.mono h.size)); clear hb h)
    | (have h := B2.out; go_at_call 10; refine (CL.out _).mono ?_; rintro e x ⟨rfl, hb⟩; have B3 := Go.Lib.hid (h.trans (hb.mono h.size)); clear hb h))
  go_ret
  exact ⟨rfl, B3.out⟩
set_option maxRecDepth 100000 in
set_option maxHeartbeats 2000000 in
theorem times_c (a b : Int) (w : World) (wa : (Lit.int .i64 a).wf = true) (z1 : 1 ≤ a) (z2 : b < 1) (z3 : 3 ≤ a) : Calls Try.prog 6 #[.int .i64 a, .int .i64 b] w (Tells (.bool true) w) := by
  have CH := Go.Lib.hid (fun W => hold_any a b W)
  have CJ := Go.Lib.hid (fun W => hold_any b a W)
  have CK := Go.Lib.hid (fun W => keep_any a wa W)
  have CL := Go.Lib.hid lives9_any
  rw [show holdN a b = 0 from by unfold holdN; omega] at CH
  rw [show holdN b a = 0 from by unfold holdN; omega] at CJ
  rw [show keepN a = a / 3 from by unfold keepN; omega] at CK
  have B0 := Go.Lib.hid (Below.refl w.heap.size w)
  have y1 : (a / 3 == 0) = false := by simp; omega
  have y2 : decide (a < 3) = false := by simp; omega
  generalize a / 3 = K at CK y1
  clear wa
  go_enter Try.func6, Try.ntmps6
  go_wp2_with (first
    | (have h := B0.out; go_at_call 18; refine (CH.out _).mono ?_; rintro e x ⟨rfl, hb⟩; have B1 := Go.Lib.hid (h.trans (hb.mono h.size)); clear hb h B0)
    | (have h := B1.out; go_at_call 19; refine (CK.out _).mono ?_; rintro e x ⟨rfl, hb⟩; have B2 := Go.Lib.hid (h.trans (hb.mono h.size)); clear hb h B1)
    | (have h := B2.out; go_at_call 18; refine (CJ.out _).mono ?_; rintro e x ⟨rfl, hb⟩; have B2 := Go.Lib.hid (h.trans (hb.mono h.size)); clear hb h)
    | (have h := B2.out; go_at_call 10; refine (CL.out _).mono ?_; rintro e x ⟨rfl, hb⟩; have B3 := Go.Lib.hid (h.trans (hb.mono h.size)); clear hb h))
  go_ret
  exact ⟨rfl, B3.out⟩
set_option maxRecDepth 100000 in
set_option maxHeartbeats 2000000 in
theorem times_dx (a b : Int) (w : World) (wa : (Lit.int .i64 a).wf = true) (z1 : 1 ≤ a) (z2 : 1 ≤ b) (z4 : b < a) (z3 : a < 3) : Calls Try.prog 6 #[.int .i64 a, .int .i64 b] w (Tells (.bool true) w) := by
  have CH := Go.Lib.hid (fun W => hold_any a b W)
  have CJ := Go.Lib.hid (fun W => hold_any b a W)
  have CK := Go.Lib.hid (fun W => keep_any a wa W)
  have CL := Go.Lib.hid lives9_any
  rw [show holdN a b = b from by unfold holdN; omega] at CH
  rw [show holdN b a = b from by unfold holdN; omega] at CJ
  rw [show keepN a = 0 from by unfold keepN; omega] at CK
  have B0 := Go.Lib.hid (Below.refl w.heap.size w)
  clear wa
  go_enter Try.func6, Try.ntmps6
  go_wp2_with (first
    | (have h := B0.out; go_at_call 18; refine (CH.out _).mono ?_; rintro e x ⟨rfl, hb⟩; have B1 := Go.Lib.hid (h.trans (hb.mono h.size)); clear hb h B0)
    | (have h := B1.out; go_at_call 19; refine (CK.out _).mono ?_; rintro e x ⟨rfl, hb⟩; have B2 := Go.Lib.hid (h.trans (hb.mono h.size)); clear hb h B1)
    | (have h := B2.out; go_at_call 18; refine (CJ.out _).mono ?_; rintro e x ⟨rfl, hb⟩; have B2 := Go.Lib.hid (h.trans (hb.mono h.size)); clear hb h)
    | (have h := B2.out; go_at_call 10; refine (CL.out _).mono ?_; rintro e x ⟨rfl, hb⟩; have B3 := Go.Lib.hid (h.trans (hb.mono h.size)); clear hb h))
  go_ret
  exact ⟨rfl, B3.out⟩
set_option maxRecDepth 100000 in
set_option maxHeartbeats 2000000 in
theorem times_ex (a b : Int) (w : World) (wa : (Lit.int .i64 a).wf = true) (z1 : 1 ≤ a) (z2 : 1 ≤ b) (z4 : a ≤ b) (z3 : a < 3) : Calls Try.prog 6 #[.int .i64 a, .int .i64 b] w (Tells (.bool true) w) := by
  have CH := Go.Lib.hid (fun W => hold_any a b W)
  have CJ := Go.Lib.hid (fun W => hold_any b a W)
  have CK := Go.Lib.hid (fun W => keep_any a wa W)
  have CL := Go.Lib.hid lives9_any
  rw [show holdN a b = a from by unfold holdN; omega] at CH
  rw [show holdN b a = a from by unfold holdN; omega] at CJ
  rw [show keepN a = 0 from by unfold keepN; omega] at CK
  have B0 := Go.Lib.hid (Below.refl w.heap.size w)
  clear wa
  go_enter Try.func6, Try.ntmps6
  go_wp2_with (first
    | (have h := B0.out; go_at_call 18; refine (CH.out _).mono ?_; rintro e x ⟨rfl, hb⟩; have B1 := Go.Lib.hid (h.trans (hb.mono h.size)); clear hb h B0)
    | (have h := B1.out; go_at_call 19; refine (CK.out _).mono ?_; rintro e x ⟨rfl, hb⟩; have B2 := Go.Lib.hid (h.trans (hb.mono h.size)); clear hb h B1)
    | (have h := B2.out; go_at_call 18; refine (CJ.out _).mono ?_; rintro e x ⟨rfl, hb⟩; have B2 := Go.Lib.hid (h.trans (hb.mono h.size)); clear hb h)
    | (have h := B2.out; go_at_call 10; refine (CL.out _).mono ?_; rintro e x ⟨rfl, hb⟩; have B3 := Go.Lib.hid (h.trans (hb.mono h.size)); clear hb h))
  go_ret
  exact ⟨rfl, B3.out⟩
set_option maxRecDepth 100000 in
set_option maxHeartbeats 2000000 in
theorem times_dy (a b : Int) (w : World) (wa : (Lit.int .i64 a).wf = true) (z1 : 1 ≤ a) (z2 : 1 ≤ b) (z4 : b < a) (z3 : 3 ≤ a) : Calls Try.prog 6 #[.int .i64 a, .int .i64 b] w (Tells (.bool true) w) := by
  have CH := Go.Lib.hid (fun W => hold_any a b W)
  have CJ := Go.Lib.hid (fun W => hold_any b a W)
  have CK := Go.Lib.hid (fun W => keep_any a wa W)
  have CL := Go.Lib.hid lives9_any
  rw [show holdN a b = b from by unfold holdN; omega] at CH
  rw [show holdN b a = b from by unfold holdN; omega] at CJ
  rw [show keepN a = a / 3 from by unfold keepN; omega] at CK
  have B0 := Go.Lib.hid (Below.refl w.heap.size w)
  have q1 := wrap_third a (by omega) wa
  generalize a / 3 = K at CK q1
  clear wa
  go_enter Try.func6, Try.ntmps6
  go_wp2_with (first
    | (have h := B0.out; go_at_call 18; refine (CH.out _).mono ?_; rintro e x ⟨rfl, hb⟩; have B1 := Go.Lib.hid (h.trans (hb.mono h.size)); clear hb h B0)
    | (have h := B1.out; go_at_call 19; refine (CK.out _).mono ?_; rintro e x ⟨rfl, hb⟩; have B2 := Go.Lib.hid (h.trans (hb.mono h.size)); clear hb h B1)
    | (have h := B2.out; go_at_call 18; refine (CJ.out _).mono ?_; rintro e x ⟨rfl, hb⟩; have B2 := Go.Lib.hid (h.trans (hb.mono h.size)); clear hb h)
    | (have h := B2.out; go_at_call 10; refine (CL.out _).mono ?_; rintro e x ⟨rfl, hb⟩; have B3 := Go.Lib.hid (h.trans (hb.mono h.size)); clear hb h))
  go_ret
  exact ⟨rfl, B3.out⟩
set_option maxRecDepth 100000 in
set_option maxHeartbeats 2000000 in
theorem times_ey (a b : Int) (w : World) (wa : (Lit.int .i64 a).wf = true) (z1 : 1 ≤ a) (z2 : 1 ≤ b) (z4 : a ≤ b) (z3 : 3 ≤ a) : Calls Try.prog 6 #[.int .i64 a, .int .i64 b] w (Tells (.bool true) w) := by
  have CH := Go.Lib.hid (fun W => hold_any a b W)
  have CJ := Go.Lib.hid (fun W => hold_any b a W)
  have CK := Go.Lib.hid (fun W => keep_any a wa W)
  have CL := Go.Lib.hid lives9_any
  rw [show holdN a b = a from by unfold holdN; omega] at CH
  rw [show holdN b a = a from by unfold holdN; omega] at CJ
  rw [show keepN a = a / 3 from by unfold keepN; omega] at CK
  have B0 := Go.Lib.hid (Below.refl w.heap.size w)
  have q1 := wrap_third a (by omega) wa
  generalize a / 3 = K at CK q1
  clear wa
  go_enter Try.func6, Try.ntmps6
  go_wp2_with (first
    | (have h := B0.out; go_at_call 18; refine (CH.out _).mono ?_; rintro e x ⟨rfl, hb⟩; have B1 := Go.Lib.hid (h.trans (hb.mono h.size)); clear hb h B0)
    | (have h := B1.out; go_at_call 19; refine (CK.out _).mono ?_; rintro e x ⟨rfl, hb⟩; have B2 := Go.Lib.hid (h.trans (hb.mono h.size)); clear hb h B1)
    | (have h := B2.out; go_at_call 18; refine (CJ.out _).mono ?_; rintro e x ⟨rfl, hb⟩; have B2 := Go.Lib.hid (h.trans (hb.mono h.size)); clear hb h)
    | (have h := B2.out; go_at_call 10; refine (CL.out _).mono ?_; rintro e x ⟨rfl, hb⟩; have B3 := Go.Lib.hid (h.trans (hb.mono h.size)); clear hb h))
  go_ret
  exact ⟨rfl, B3.out⟩
theorem times_walk (a b : Int) (w : World) (wa : (Lit.int .i64 a).wf = true) : Calls Try.prog 6 #[.int .i64 a, .int .i64 b] w (Tells (.bool true) w) := by
  by_cases h1 : a < 1
  · exact times_a a b w wa h1
  · by_cases h2 : b < 1
    · by_cases h3 : a < 3
      · exact times_b a b w wa (by omega) h2 h3
      · exact times_c a b w wa (by omega) h2 (by omega)
    · by_cases h4 : b < a <;> by_cases h3 : a < 3
      · exact times_dx a b w wa (by omega) (by omega) h4 h3
      · exact times_dy a b w wa (by omega) (by omega) h4 (by omega)
      · exact times_ex a b w wa (by omega) (by omega) (by omega) h3
      · exact times_ey a b w wa (by omega) (by omega) (by omega) (by omega)
end Go.Proofs.Ytkkfnpacejdlnaa.Opn
