/- OpenReads' walk. -/
import Derived.Test.YtkkfnpacejdlnaaOpnLives
import Derived.Test.YtkkfnpacejdlnaaOpnJudge
import Derived.Test.YtkkfnpacejdlnaaOpnRDec
import Derived.Test.YtkkfnpacejdlnaaOpnDec
namespace Go.Proofs.Ytkkfnpacejdlnaa.Opn
open Go.RowKit Mem Oct Att

theorem decode_r (v : Value) (b : List Nat) (w : World) (hv : U8s w v b) (hl : b.length ≤ 400) : Calls Try.prog 15 #[v] w (DecF9 b w) := by
  by_cases h : b.length < 10
  · exact decode_r0 v b w hv h
  · exact decode_r10 v b w hv (by omega) hl
/-- Decode's answer, laid open. -/
theorem dec_open {b : List Nat} {a r : Nat} {h cd sb : Int} {f : Bool} {dt : List Nat} {w w' : World} {e : Ending} (hq : outO (decO b) = (⟨a, h, r, f⟩, ⟨cd, sb, dt⟩)) (hd : DecF9 b w e w') :
    ∃ A m c, e = .returned (.tuple #[.agg #[.int .u32 a, .int .i64 h, .int .u32 r, .bool f], .agg #[.int .i64 cd, .int .i64 sb, .slice A m c]]) ∧ Note w' (.agg #[.int .i64 cd, .int .i64 sb, .slice A m c]) ⟨cd, sb, dt⟩ ∧ Below w.heap.size w w' := by
  unfold DecF9 at hd
  rw [hq] at hd
  obtain ⟨vn, h1, h2, h3⟩ := hd
  have h2' := h2
  obtain ⟨-, -, vd, rfl, hu⟩ := h2
  obtain ⟨A, c, rfl, -, -⟩ := hu.form
  exact ⟨A, _, c, h1, h2', h3⟩
set_option maxRecDepth 100000 in
set_option maxHeartbeats 4000000 in
theorem reads_walk (v : Value) (b : List Nat) (w : World) (hv : U8s w v b) : Calls Try.prog 4 #[v] w (Tells (.bool true) w) := by
  obtain ⟨D, hD⟩ : ∃ D, D = b.take 300 := ⟨_, rfl⟩
  have hDl : D.length ≤ 300 := by rw [hD, List.length_take]; omega
  have hDs : Small D := by rw [hD]; exact hv.2.take 300
  have CB1 := Go.Lib.hid (show Calls Try.prog 14 #[v, .int .i64 300] w (Gives8 D w) from by rw [hD]; exact bytes_any v b 300 w hv (by omega))
  have CB2 := Go.Lib.hid (fun u W (h : U8s W u D) => show Calls Try.prog 14 #[u, .int .i64 300] W (Gives8 D W) from by
    have h2 := bytes_any u D 300 W h (by omega)
    rw [List.take_of_length_le hDl] at h2
    exact h2)
  obtain ⟨⟨⟨a, hh, r, f⟩, ⟨cd, sb, dt⟩⟩, hq⟩ : ∃ q, outO (decO D) = q := ⟨_, rfl⟩
  have CP := Go.Lib.hid (fun u W (h : U8s W u D) => (decode_p u D W h (by omega)).mono fun e w' hd => dec_open hq hd)
  have CR := Go.Lib.hid (fun u W (h : U8s W u D) => (decode_r u D W h (by omega)).mono fun e w' hd => dec_open hq hd)
  have CL := Go.Lib.hid lives9_any
  have CT := Go.Lib.hid (fun v1 v2 W (h1 : Note W v1 ⟨cd, sb, dt⟩) (h2 : Note W v2 ⟨cd, sb, dt⟩) => show Calls Try.prog 13 #[v1, v2] W (Tells (.bool true) W) from by
    have h := told_any v1 v2 _ _ W h1 h2
    rw [sameN_iff.2 rfl] at h
    exact h)
  have HSm := Go.Lib.hid hDs
  clear hv hD hDl hDs hq
  go_enter Try.func4, Try.ntmps4
  go_wp2_with (first
    | (have tok := CB1.out; go_at_call 14; first | (refine tok.mono ?_; rintro e z1 ⟨A1, c1, rfl, ho, hb⟩; have U1 := Go.Lib.hid (U8s.of_own ho HSm.out); have B1 := Go.Lib.hid hb; clear ho hb tok CB1) | (trace "FELL B1"; trace_state; fail_if_success skip))
    | (have tok := CB2.out; go_at_call 14; first | (refine (tok _ _ U1.out).mono ?_; rintro e z2 ⟨A2, c2, rfl, ho, hb⟩; have U2 := Go.Lib.hid (U8s.of_own ho HSm.out); have U3 := Go.Lib.hid (U1.out.keep hb); have B2 := Go.Lib.hid (B1.out.trans (hb.mono B1.out.size)); clear ho hb tok CB2 U1 B1) | (trace "FELL B2"; trace_state; fail_if_success skip))
    | (go_at_call 11; first | (refine (CP.out _ _ U2.out).mono ?_; rintro e z3 ⟨A3, m3, c3, rfl, hn, hb⟩; obtain ⟨k1, k2, k3⟩ := two_boxes z3 (.int .u32 a) (.int .i64 hh) (.int .u32 r) (.bool f) (.int .i64 cd) (.int .i64 sb) (.slice A3 m3 c3); have X3 := Go.Lib.hid (And.intro k1 k2); have N3 := Go.Lib.hid (hn.keep k3); have U4 := Go.Lib.hid ((U3.out.keep hb).keep k3); have B3 := Go.Lib.hid (B2.out.trans ((hb.mono B2.out.size).trans (k3.mono (Nat.le_trans B2.out.size hb.size)))); clear k1 k2 k3 hn hb U2 U3 B2) | (trace "FELL P"; trace_state; fail_if_success skip))
    | (go_at_call 15; first | (refine (CR.out _ _ U4.out).mono ?_; rintro e z4 ⟨A4, m4, c4, rfl, hn, hb⟩; obtain ⟨k1, k2, k3⟩ := two_boxes z4 (.int .u32 a) (.int .i64 hh) (.int .u32 r) (.bool f) (.int .i64 cd) (.int .i64 sb) (.slice A4 m4 c4); have X4 := Go.Lib.hid (And.intro ((X3.out.1.keep hb).keep k3) ((X3.out.2.keep hb).keep k3)); have Y4 := Go.Lib.hid (And.intro k1 k2); have N4 := Go.Lib.hid (And.intro ((N3.out.keep hb).keep k3) (hn.keep k3)); have B4 := Go.Lib.hid (B3.out.trans ((hb.mono B3.out.size).trans (k3.mono (Nat.le_trans B3.out.size hb.size)))); clear k1 k2 k3 hn hb U4 B3; obtain ⟨p0, p1, p2, p3⟩ := X4.out.1.cells; obtain ⟨s0, s1, s2⟩ := X4.out.2.cells; obtain ⟨q0, q1, q2, q3⟩ := Y4.out.1.cells; obtain ⟨t0, t1, t2⟩ := Y4.out.2.cells) | (trace "FELL R"; trace_state; fail_if_success skip))
    | (go_at_call 13; first | (refine (CT.out _ _ _ N4.out.1 N4.out.2).mono ?_; rintro e z5 ⟨rfl, hb⟩; have B5 := Go.Lib.hid (B4.out.trans (hb.mono B4.out.size)); clear hb) | (trace "FELL T"; trace_state; fail_if_success skip))
    | (go_at_call 10; first | (refine (CL.out _).mono ?_; rintro e z6 ⟨rfl, hb⟩; have B6 := Go.Lib.hid (B5.out.trans (hb.mono B5.out.size)); clear hb) | (trace "FELL L"; trace_state; fail_if_success skip)))
  go_ret
  exact ⟨rfl, B6.out⟩
end Go.Proofs.Ytkkfnpacejdlnaa.Opn
