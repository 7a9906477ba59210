/- OpenJudges' walk. -/
import Derived.Test.YtkkfnpacejdlnaaOpnLives
import Derived.Test.YtkkfnpacejdlnaaOpnJudge
import Derived.Deep.RegionHeld3
namespace Go.Proofs.Ytkkfnpacejdlnaa.Opn
open Go.RowKit Mem Oct Att

set_option maxRecDepth 100000 in
set_option maxHeartbeats 4000000 in
theorem judges_walk (o : Op) (an own : Nat) (w : World) (han : an < 4294967296) : Calls Try.prog 5 #[opn o, .int .u32 an, .int .u32 own] w (Tells (.bool true) w) := by
  have CJ := Go.Lib.hid (fun W => pjudge_any o an own W)
  have CR := Go.Lib.hid (fun W => rjudge_any o an own han W)
  have CL := Go.Lib.hid lives9_any
  generalize judgeN o an own = N at CJ CR
  have CT := Go.Lib.hid (fun v1 v2 W (h1 : Note W v1 N) (h2 : Note W v2 N) => show Calls Try.prog 13 #[v1, v2] W (Tells (.bool true) W) from by
    have h := told_any v1 v2 N N W h1 h2
    rw [sameN_iff.2 rfl] at h
    exact h)
  obtain ⟨oa, oh, oi, fr⟩ := o
  unfold opn at CJ CR ⊢
  dsimp only at CJ CR ⊢
  have HX := Go.Lib.hid (Box4.new w 24 (.int .u32 oa) (.int .i64 oh) (.int .u32 oi) (.bool fr))
  have S0 := Go.Lib.hid (And.intro HX.out ((Below.refl w.heap.size w).alloc (Nat.le_refl _) (.cells #[.int .u32 oa, .int .i64 oh, .int .u32 oi, .bool fr] 24)))
  obtain ⟨q0, q1, q2, q3⟩ := HX.out.cells
  clear han
  go_enter Try.func5, Try.ntmps5
  go_wp2
  clear q0 q1 q2 q3
  have S1 := Go.Lib.hid (And.intro (S0.out.1.keep (Below.refl _ _).drew) (S0.out.2.trans ((Below.refl _ _).drew.mono S0.out.2.size)))
  obtain ⟨q0, q1, q2, q3⟩ := S1.out.1.cells
  go_region_held3 (fun w' => w'.cell? ⟨w.heap.size, 0, none⟩ = some (.int .u32 oa) ∧ w'.cell? ⟨w.heap.size, 1, none⟩ = some (.int .i64 oh) ∧ w'.cell? ⟨w.heap.size, 2, none⟩ = some (.int .u32 oi) ∧ w'.cell? ⟨w.heap.size, 3, none⟩ = some (.bool fr)) (exact ⟨by assumption, by assumption, by assumption, by assumption⟩) (first
    | (have h := S1.out; go_at_call 16; refine (CJ.out _).mono ?_; rintro e z ⟨v1, rfl, hN, hb⟩; have N1 := Go.Lib.hid hN; have S2 := Go.Lib.hid (And.intro (h.1.keep hb) (h.2.trans (hb.mono h.2.size))); clear h hb hN S1 q0 q1 q2 q3; obtain ⟨q0, q1, q2, q3⟩ := S2.out.1.cells)
    | (have h := S2.out; go_at_call 17; refine (CR.out _).mono ?_; rintro e z ⟨v2, rfl, hN, hb⟩; have N2 := Go.Lib.hid hN; have N3 := Go.Lib.hid (N1.out.keep hb); have S3 := Go.Lib.hid (And.intro (h.1.keep hb) (h.2.trans (hb.mono h.2.size))); clear h hb hN S2 q0 q1 q2 q3; obtain ⟨q0, q1, q2, q3⟩ := S3.out.1.cells)
    | (have h := S3.out; go_at_call 13; refine (CT.out _ _ _ N3.out N2.out).mono ?_; rintro e z ⟨rfl, hb⟩; have S4 := Go.Lib.hid (And.intro (h.1.keep hb) (h.2.trans (hb.mono h.2.size))); clear h hb S3 q0 q1 q2 q3; obtain ⟨q0, q1, q2, q3⟩ := S4.out.1.cells)
    | (have h := S4.out; go_at_call 10; refine (CL.out _).mono ?_; rintro e z ⟨rfl, hb⟩; have S5 := Go.Lib.hid (And.intro (h.1.keep hb) (h.2.trans (hb.mono h.2.size))); clear h hb S4 q0 q1 q2 q3; obtain ⟨q0, q1, q2, q3⟩ := S5.out.1.cells))
  go_wp2
  go_ret
  exact ⟨rfl, S5.out.2⟩
end Go.Proofs.Ytkkfnpacejdlnaa.Opn
