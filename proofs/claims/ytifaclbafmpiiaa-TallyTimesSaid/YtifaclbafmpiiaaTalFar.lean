/- TallyFar and TallyTimes: the laws' walks, over what their callees give. -/
import Derived.Test.YtifaclbafmpiiaaMem
import Derived.Test.YtifaclbafmpiiaaTalMath
import Derived.Outline
import Derived.BigQuiet
import Derived.Deep.RegionHeld3
namespace Go.Proofs.Ytifaclbafmpiiaa.Tal
open Go.RowKit Mem

theorem small_any (x : Int) (w : World) : Calls Try.prog 20 #[.int .i64 x] w fun e w' => e = .returned (.bool (smallB x)) ∧ w = w' := by
  by_cases h : -1048576 ≤ x
  · go_enter Try.func20, Try.ntmps20
    go_wp2
    go_ret
    exact ⟨by simp [smallB, h], rfl⟩
  · go_enter Try.func20, Try.ntmps20
    go_wp2
    go_ret
    exact ⟨by have h2 : decide (-1048576 ≤ x) = false := by simpa using h
              simp [smallB, h2], rfl⟩

set_option maxRecDepth 100000 in
set_option maxHeartbeats 4000000 in
theorem far_case0 (a0 a1 b0 b1 : Int) (w : World) (S0 : Hid (∀ W, Calls Try.prog 20 #[.int .i64 a0] W fun e w' => e = .returned (.bool false) ∧ W = w'))
    (CF : Hid (∀ W, Calls Try.prog 21 #[.int .i64 a0, .int .i64 a1] W (Tells (.int .i64 0) W))) (CA : Hid (∀ W, Calls Try.prog 22 #[.agg #[.int .i64 a0, .int .i64 a1], .agg #[.int .i64 b0, .int .i64 b1]] W (Tells (.int .i64 0) W)))
    (CB : Hid (∀ W, Calls Try.prog 22 #[.agg #[.int .i64 b0, .int .i64 b1], .agg #[.int .i64 a0, .int .i64 a1]] W (Tells (.int .i64 0) W))) (CL : Hid (∀ W, Calls Try.prog 19 #[] W (Tells (.bool true) W))) :
    Calls Try.prog 4 #[.agg #[.int .i64 a0, .int .i64 a1], .agg #[.int .i64 b0, .int .i64 b1]] w (Tells (.bool true) w) := by
  have HB0 : Below w.heap.size w ((w.alloc (.cells #[.int .i64 a0, .int .i64 a1] 48)).alloc (.cells #[.int .i64 b0, .int .i64 b1] 48)) := ((Below.refl _ w).alloc (Nat.le_refl _) _).alloc (by simp) _
  obtain ⟨W0, hW0⟩ : ∃ W0, W0 = (w.alloc (.cells #[.int .i64 a0, .int .i64 a1] 48)).alloc (.cells #[.int .i64 b0, .int .i64 b1] 48) := ⟨_, rfl⟩
  have k0 : W0.cell? ⟨w.heap.size, 0, none⟩ = some (.int .i64 a0) := by rw [hW0]; simp
  have k1 : W0.cell? ⟨w.heap.size, 1, none⟩ = some (.int .i64 a1) := by rw [hW0]; simp
  have k2 : W0.cell? ⟨w.heap.size + 1, 0, none⟩ = some (.int .i64 b0) := by rw [hW0]; simp
  have k3 : W0.cell? ⟨w.heap.size + 1, 1, none⟩ = some (.int .i64 b1) := by rw [hW0]; simp
  have hs0 : W0.heap.size = w.heap.size + 1 + 1 := by rw [hW0]; simp
  have HK := Go.Lib.hid (fun (W : World) (h : Below W0.heap.size W0 W) => (⟨(h.cell (p := ⟨w.heap.size, 0, none⟩) (by show w.heap.size < _; omega)).trans k0, (h.cell (p := ⟨w.heap.size, 1, none⟩) (by show w.heap.size < _; omega)).trans k1, (h.cell (p := ⟨w.heap.size + 1, 0, none⟩) (by show w.heap.size + 1 < _; omega)).trans k2, (h.cell (p := ⟨w.heap.size + 1, 1, none⟩) (by show w.heap.size + 1 < _; omega)).trans k3⟩ : W.cell? ⟨w.heap.size, 0, none⟩ = some (.int .i64 a0) ∧ W.cell? ⟨w.heap.size, 1, none⟩ = some (.int .i64 a1) ∧ W.cell? ⟨w.heap.size + 1, 0, none⟩ = some (.int .i64 b0) ∧ W.cell? ⟨w.heap.size + 1, 1, none⟩ = some (.int .i64 b1)))
  rw [← hW0] at HB0
  have HW := Go.Lib.hid hW0
  clear hW0 hs0
  go_enter Try.func4, Try.ntmps4
  go_wp2_with fail
  try (rw [← HW.out])
  go_wp2_with (first | (go_at_call 20; with_reducible refine (S0.out _).mono ?_; rintro e w' ⟨rfl, rfl⟩) | (go_at_call 21; refine (CF.out _).mono ?_; rintro e w1 ⟨rfl, hbx⟩; have hb1 : Below W0.heap.size W0 w1 := hbx; obtain ⟨m0, m1, m2, m3⟩ := HK.out w1 hb1; have HB1 := Go.Lib.hid hb1) | (go_at_call 22; have h2w := HB2.out; refine (CB.out _).mono ?_; rintro e w3 ⟨rfl, hb3⟩; have HB3 := Go.Lib.hid (HB2.out.trans (hb3.mono HB2.out.size))) | (go_at_call 22; refine (CA.out _).mono ?_; rintro e w2 ⟨rfl, hb2⟩; have HB2 := Go.Lib.hid (HB1.out.trans (hb2.mono HB1.out.size)); obtain ⟨n0, n1, n2, n3⟩ := HK.out w2 HB2.out) | (go_at_call 19; refine (CL.out _).mono ?_; rintro e w4 ⟨rfl, hb4⟩; have HB4 := Go.Lib.hid (HB3.out.trans (hb4.mono HB3.out.size))))
  go_ret
  exact ⟨rfl, HB0.trans (HB4.out.mono HB0.size)⟩
set_option maxRecDepth 100000 in
set_option maxHeartbeats 4000000 in
theorem far_case1 (a0 a1 b0 b1 : Int) (w : World) (S0 : Hid (∀ W, Calls Try.prog 20 #[.int .i64 a0] W fun e w' => e = .returned (.bool true) ∧ W = w')) (S1 : Hid (∀ W, Calls Try.prog 20 #[.int .i64 a1] W fun e w' => e = .returned (.bool false) ∧ W = w'))
    (CF : Hid (∀ W, Calls Try.prog 21 #[.int .i64 a0, .int .i64 a1] W (Tells (.int .i64 0) W))) (CA : Hid (∀ W, Calls Try.prog 22 #[.agg #[.int .i64 a0, .int .i64 a1], .agg #[.int .i64 b0, .int .i64 b1]] W (Tells (.int .i64 0) W)))
    (CB : Hid (∀ W, Calls Try.prog 22 #[.agg #[.int .i64 b0, .int .i64 b1], .agg #[.int .i64 a0, .int .i64 a1]] W (Tells (.int .i64 0) W))) (CL : Hid (∀ W, Calls Try.prog 19 #[] W (Tells (.bool true) W))) :
    Calls Try.prog 4 #[.agg #[.int .i64 a0, .int .i64 a1], .agg #[.int .i64 b0, .int .i64 b1]] w (Tells (.bool true) w) := by
  have HB0 : Below w.heap.size w ((w.alloc (.cells #[.int .i64 a0, .int .i64 a1] 48)).alloc (.cells #[.int .i64 b0, .int .i64 b1] 48)) := ((Below.refl _ w).alloc (Nat.le_refl _) _).alloc (by simp) _
  obtain ⟨W0, hW0⟩ : ∃ W0, W0 = (w.alloc (.cells #[.int .i64 a0, .int .i64 a1] 48)).alloc (.cells #[.int .i64 b0, .int .i64 b1] 48) := ⟨_, rfl⟩
  have k0 : W0.cell? ⟨w.heap.size, 0, none⟩ = some (.int .i64 a0) := by rw [hW0]; simp
  have k1 : W0.cell? ⟨w.heap.size, 1, none⟩ = some (.int .i64 a1) := by rw [hW0]; simp
  have k2 : W0.cell? ⟨w.heap.size + 1, 0, none⟩ = some (.int .i64 b0) := by rw [hW0]; simp
  have k3 : W0.cell? ⟨w.heap.size + 1, 1, none⟩ = some (.int .i64 b1) := by rw [hW0]; simp
  have hs0 : W0.heap.size = w.heap.size + 1 + 1 := by rw [hW0]; simp
  have HK := Go.Lib.hid (fun (W : World) (h : Below W0.heap.size W0 W) => (⟨(h.cell (p := ⟨w.heap.size, 0, none⟩) (by show w.heap.size < _; omega)).trans k0, (h.cell (p := ⟨w.heap.size, 1, none⟩) (by show w.heap.size < _; omega)).trans k1, (h.cell (p := ⟨w.heap.size + 1, 0, none⟩) (by show w.heap.size + 1 < _; omega)).trans k2, (h.cell (p := ⟨w.heap.size + 1, 1, none⟩) (by show w.heap.size + 1 < _; omega)).trans k3⟩ : W.cell? ⟨w.heap.size, 0, none⟩ = some (.int .i64 a0) ∧ W.cell? ⟨w.heap.size, 1, none⟩ = some (.int .i64 a1) ∧ W.cell? ⟨w.heap.size + 1, 0, none⟩ = some (.int .i64 b0) ∧ W.cell? ⟨w.heap.size + 1, 1, none⟩ = some (.int .i64 b1)))
  rw [← hW0] at HB0
  have HW := Go.Lib.hid hW0
  clear hW0 hs0
  go_enter Try.func4, Try.ntmps4
  go_wp2_with fail
  try (rw [← HW.out])
  go_wp2_with (first | (go_at_call 20; with_reducible refine (S0.out _).mono ?_; rintro e w' ⟨rfl, rfl⟩) | (go_at_call 20; with_reducible refine (S1.out _).mono ?_; rintro e w' ⟨rfl, rfl⟩) | (go_at_call 21; refine (CF.out _).mono ?_; rintro e w1 ⟨rfl, hbx⟩; have hb1 : Below W0.heap.size W0 w1 := hbx; obtain ⟨m0, m1, m2, m3⟩ := HK.out w1 hb1; have HB1 := Go.Lib.hid hb1) | (go_at_call 22; have h2w := HB2.out; refine (CB.out _).mono ?_; rintro e w3 ⟨rfl, hb3⟩; have HB3 := Go.Lib.hid (HB2.out.trans (hb3.mono HB2.out.size))) | (go_at_call 22; refine (CA.out _).mono ?_; rintro e w2 ⟨rfl, hb2⟩; have HB2 := Go.Lib.hid (HB1.out.trans (hb2.mono HB1.out.size)); obtain ⟨n0, n1, n2, n3⟩ := HK.out w2 HB2.out) | (go_at_call 19; refine (CL.out _).mono ?_; rintro e w4 ⟨rfl, hb4⟩; have HB4 := Go.Lib.hid (HB3.out.trans (hb4.mono HB3.out.size))))
  go_ret
  exact ⟨rfl, HB0.trans (HB4.out.mono HB0.size)⟩
set_option maxRecDepth 100000 in
set_option maxHeartbeats 4000000 in
theorem far_case2 (a0 a1 b0 b1 q0 q1 : Int) (w : World) (S0 : Hid (∀ W, Calls Try.prog 20 #[.int .i64 a0] W fun e w' => e = .returned (.bool true) ∧ W = w')) (S1 : Hid (∀ W, Calls Try.prog 20 #[.int .i64 a1] W fun e w' => e = .returned (.bool true) ∧ W = w')) (S2 : Hid (∀ W, Calls Try.prog 20 #[.int .i64 b0] W fun e w' => e = .returned (.bool false) ∧ W = w')) (e0 : IntKind.i64.wrap (a0 * a0) = q0) (e1 : IntKind.i64.wrap (a1 * a1) = q1) (e2 : IntKind.i64.wrap (q0 + q1) = q0 + q1)
    (CF : Hid (∀ W, Calls Try.prog 21 #[.int .i64 a0, .int .i64 a1] W (Tells (.int .i64 (q0 + q1)) W))) (CA : Hid (∀ W, Calls Try.prog 22 #[.agg #[.int .i64 a0, .int .i64 a1], .agg #[.int .i64 b0, .int .i64 b1]] W (Tells (.int .i64 0) W)))
    (CB : Hid (∀ W, Calls Try.prog 22 #[.agg #[.int .i64 b0, .int .i64 b1], .agg #[.int .i64 a0, .int .i64 a1]] W (Tells (.int .i64 0) W))) (CL : Hid (∀ W, Calls Try.prog 19 #[] W (Tells (.bool true) W))) :
    Calls Try.prog 4 #[.agg #[.int .i64 a0, .int .i64 a1], .agg #[.int .i64 b0, .int .i64 b1]] w (Tells (.bool true) w) := by
  have HB0 : Below w.heap.size w ((w.alloc (.cells #[.int .i64 a0, .int .i64 a1] 48)).alloc (.cells #[.int .i64 b0, .int .i64 b1] 48)) := ((Below.refl _ w).alloc (Nat.le_refl _) _).alloc (by simp) _
  obtain ⟨W0, hW0⟩ : ∃ W0, W0 = (w.alloc (.cells #[.int .i64 a0, .int .i64 a1] 48)).alloc (.cells #[.int .i64 b0, .int .i64 b1] 48) := ⟨_, rfl⟩
  have k0 : W0.cell? ⟨w.heap.size, 0, none⟩ = some (.int .i64 a0) := by rw [hW0]; simp
  have k1 : W0.cell? ⟨w.heap.size, 1, none⟩ = some (.int .i64 a1) := by rw [hW0]; simp
  have k2 : W0.cell? ⟨w.heap.size + 1, 0, none⟩ = some (.int .i64 b0) := by rw [hW0]; simp
  have k3 : W0.cell? ⟨w.heap.size + 1, 1, none⟩ = some (.int .i64 b1) := by rw [hW0]; simp
  have hs0 : W0.heap.size = w.heap.size + 1 + 1 := by rw [hW0]; simp
  have HK := Go.Lib.hid (fun (W : World) (h : Below W0.heap.size W0 W) => (⟨(h.cell (p := ⟨w.heap.size, 0, none⟩) (by show w.heap.size < _; omega)).trans k0, (h.cell (p := ⟨w.heap.size, 1, none⟩) (by show w.heap.size < _; omega)).trans k1, (h.cell (p := ⟨w.heap.size + 1, 0, none⟩) (by show w.heap.size + 1 < _; omega)).trans k2, (h.cell (p := ⟨w.heap.size + 1, 1, none⟩) (by show w.heap.size + 1 < _; omega)).trans k3⟩ : W.cell? ⟨w.heap.size, 0, none⟩ = some (.int .i64 a0) ∧ W.cell? ⟨w.heap.size, 1, none⟩ = some (.int .i64 a1) ∧ W.cell? ⟨w.heap.size + 1, 0, none⟩ = some (.int .i64 b0) ∧ W.cell? ⟨w.heap.size + 1, 1, none⟩ = some (.int .i64 b1)))
  rw [← hW0] at HB0
  have HW := Go.Lib.hid hW0
  clear hW0 hs0
  go_enter Try.func4, Try.ntmps4
  go_wp2_with fail
  try (rw [← HW.out])
  go_wp2_with (first | (go_at_call 20; with_reducible refine (S0.out _).mono ?_; rintro e w' ⟨rfl, rfl⟩) | (go_at_call 20; with_reducible refine (S1.out _).mono ?_; rintro e w' ⟨rfl, rfl⟩) | (go_at_call 20; with_reducible refine (S2.out _).mono ?_; rintro e w' ⟨rfl, rfl⟩) | (go_at_call 21; refine (CF.out _).mono ?_; rintro e w1 ⟨rfl, hbx⟩; have hb1 : Below W0.heap.size W0 w1 := hbx; obtain ⟨m0, m1, m2, m3⟩ := HK.out w1 hb1; have HB1 := Go.Lib.hid hb1) | (go_at_call 22; have h2w := HB2.out; refine (CB.out _).mono ?_; rintro e w3 ⟨rfl, hb3⟩; have HB3 := Go.Lib.hid (HB2.out.trans (hb3.mono HB2.out.size))) | (go_at_call 22; refine (CA.out _).mono ?_; rintro e w2 ⟨rfl, hb2⟩; have HB2 := Go.Lib.hid (HB1.out.trans (hb2.mono HB1.out.size)); obtain ⟨n0, n1, n2, n3⟩ := HK.out w2 HB2.out) | (go_at_call 19; refine (CL.out _).mono ?_; rintro e w4 ⟨rfl, hb4⟩; have HB4 := Go.Lib.hid (HB3.out.trans (hb4.mono HB3.out.size))))
  go_ret
  exact ⟨rfl, HB0.trans (HB4.out.mono HB0.size)⟩
set_option maxRecDepth 100000 in
set_option maxHeartbeats 4000000 in
theorem far_case3 (a0 a1 b0 b1 q0 q1 : Int) (w : World) (S0 : Hid (∀ W, Calls Try.prog 20 #[.int .i64 a0] W fun e w' => e = .returned (.bool true) ∧ W = w')) (S1 : Hid (∀ W, Calls Try.prog 20 #[.int .i64 a1] W fun e w' => e = .returned (.bool true) ∧ W = w')) (S2 : Hid (∀ W, Calls Try.prog 20 #[.int .i64 b0] W fun e w' => e = .returned (.bool true) ∧ W = w')) (S3 : Hid (∀ W, Calls Try.prog 20 #[.int .i64 b1] W fun e w' => e = .returned (.bool false) ∧ W = w')) (e0 : IntKind.i64.wrap (a0 * a0) = q0) (e1 : IntKind.i64.wrap (a1 * a1) = q1) (e2 : IntKind.i64.wrap (q0 + q1) = q0 + q1)
    (CF : Hid (∀ W, Calls Try.prog 21 #[.int .i64 a0, .int .i64 a1] W (Tells (.int .i64 (q0 + q1)) W))) (CA : Hid (∀ W, Calls Try.prog 22 #[.agg #[.int .i64 a0, .int .i64 a1], .agg #[.int .i64 b0, .int .i64 b1]] W (Tells (.int .i64 0) W)))
    (CB : Hid (∀ W, Calls Try.prog 22 #[.agg #[.int .i64 b0, .int .i64 b1], .agg #[.int .i64 a0, .int .i64 a1]] W (Tells (.int .i64 0) W))) (CL : Hid (∀ W, Calls Try.prog 19 #[] W (Tells (.bool true) W))) :
    Calls Try.prog 4 #[.agg #[.int .i64 a0, .int .i64 a1], .agg #[.int .i64 b0, .int .i64 b1]] w (Tells (.bool true) w) := by
  have HB0 : Below w.heap.size w ((w.alloc (.cells #[.int .i64 a0, .int .i64 a1] 48)).alloc (.cells #[.int .i64 b0, .int .i64 b1] 48)) := ((Below.refl _ w).alloc (Nat.le_refl _) _).alloc (by simp) _
  obtain ⟨W0, hW0⟩ : ∃ W0, W0 = (w.alloc (.cells #[.int .i64 a0, .int .i64 a1] 48)).alloc (.cells #[.int .i64 b0, .int .i64 b1] 48) := ⟨_, rfl⟩
  have k0 : W0.cell? ⟨w.heap.size, 0, none⟩ = some (.int .i64 a0) := by rw [hW0]; simp
  have k1 : W0.cell? ⟨w.heap.size, 1, none⟩ = some (.int .i64 a1) := by rw [hW0]; simp
  have k2 : W0.cell? ⟨w.heap.size + 1, 0, none⟩ = some (.int .i64 b0) := by rw [hW0]; simp
  have k3 : W0.cell? ⟨w.heap.size + 1, 1, none⟩ = some (.int .i64 b1) := by rw [hW0]; simp
  have hs0 : W0.heap.size = w.heap.size + 1 + 1 := by rw [hW0]; simp
  have HK := Go.Lib.hid (fun (W : World) (h : Below W0.heap.size W0 W) => (⟨(h.cell (p := ⟨w.heap.size, 0, none⟩) (by show w.heap.size < _; omega)).trans k0, (h.cell (p := ⟨w.heap.size, 1, none⟩) (by show w.heap.size < _; omega)).trans k1, (h.cell (p := ⟨w.heap.size + 1, 0, none⟩) (by show w.heap.size + 1 < _; omega)).trans k2, (h.cell (p := ⟨w.heap.size + 1, 1, none⟩) (by show w.heap.size + 1 < _; omega)).trans k3⟩ : W.cell? ⟨w.heap.size, 0, none⟩ = some (.int .i64 a0) ∧ W.cell? ⟨w.heap.size, 1, none⟩ = some (.int .i64 a1) ∧ W.cell? ⟨w.heap.size + 1, 0, none⟩ = some (.int .i64 b0) ∧ W.cell? ⟨w.heap.size + 1, 1, none⟩ = some (.int .i64 b1)))
  rw [← hW0] at HB0
  have HW := Go.Lib.hid hW0
  clear hW0 hs0
  go_enter Try.func4, Try.ntmps4
  go_wp2_with fail
  try (rw [← HW.out])
  go_wp2_with (first | (go_at_call 20; with_reducible refine (S0.out _).mono ?_; rintro e w' ⟨rfl, rfl⟩) | (go_at_call 20; with_reducible refine (S1.out _).mono ?_; rintro e w' ⟨rfl, rfl⟩) | (go_at_call 20; with_reducible refine (S2.out _).mono ?_; rintro e w' ⟨rfl, rfl⟩) | (go_at_call 20; with_reducible refine (S3.out _).mono ?_; rintro e w' ⟨rfl, rfl⟩) | (go_at_call 21; refine (CF.out _).mono ?_; rintro e w1 ⟨rfl, hbx⟩; have hb1 : Below W0.heap.size W0 w1 := hbx; obtain ⟨m0, m1, m2, m3⟩ := HK.out w1 hb1; have HB1 := Go.Lib.hid hb1) | (go_at_call 22; have h2w := HB2.out; refine (CB.out _).mono ?_; rintro e w3 ⟨rfl, hb3⟩; have HB3 := Go.Lib.hid (HB2.out.trans (hb3.mono HB2.out.size))) | (go_at_call 22; refine (CA.out _).mono ?_; rintro e w2 ⟨rfl, hb2⟩; have HB2 := Go.Lib.hid (HB1.out.trans (hb2.mono HB1.out.size)); obtain ⟨n0, n1, n2, n3⟩ := HK.out w2 HB2.out) | (go_at_call 19; refine (CL.out _).mono ?_; rintro e w4 ⟨rfl, hb4⟩; have HB4 := Go.Lib.hid (HB3.out.trans (hb4.mono HB3.out.size))))
  go_ret
  exact ⟨rfl, HB0.trans (HB4.out.mono HB0.size)⟩
set_option maxRecDepth 100000 in
set_option maxHeartbeats 4000000 in
theorem far_case4 (a0 a1 b0 b1 q0 q1 d0 d1 p0 p1 : Int) (w : World) (S0 : Hid (∀ W, Calls Try.prog 20 #[.int .i64 a0] W fun e w' => e = .returned (.bool true) ∧ W = w')) (S1 : Hid (∀ W, Calls Try.prog 20 #[.int .i64 a1] W fun e w' => e = .returned (.bool true) ∧ W = w')) (S2 : Hid (∀ W, Calls Try.prog 20 #[.int .i64 b0] W fun e w' => e = .returned (.bool true) ∧ W = w')) (S3 : Hid (∀ W, Calls Try.prog 20 #[.int .i64 b1] W fun e w' => e = .returned (.bool true) ∧ W = w')) (e0 : IntKind.i64.wrap (a0 * a0) = q0) (e1 : IntKind.i64.wrap (a1 * a1) = q1) (e2 : IntKind.i64.wrap (q0 + q1) = q0 + q1) (x0 : IntKind.i64.wrap (a0 - b0) = d0) (x1 : IntKind.i64.wrap (a1 - b1) = d1) (y0 : IntKind.i64.wrap (d0 * d0) = p0) (y1 : IntKind.i64.wrap (d1 * d1) = p1) (y2 : IntKind.i64.wrap (p0 + p1) = p0 + p1)
    (CF : Hid (∀ W, Calls Try.prog 21 #[.int .i64 a0, .int .i64 a1] W (Tells (.int .i64 (q0 + q1)) W))) (CA : Hid (∀ W, Calls Try.prog 22 #[.agg #[.int .i64 a0, .int .i64 a1], .agg #[.int .i64 b0, .int .i64 b1]] W (Tells (.int .i64 (p0 + p1)) W)))
    (CB : Hid (∀ W, Calls Try.prog 22 #[.agg #[.int .i64 b0, .int .i64 b1], .agg #[.int .i64 a0, .int .i64 a1]] W (Tells (.int .i64 (p0 + p1)) W))) (CL : Hid (∀ W, Calls Try.prog 19 #[] W (Tells (.bool true) W))) :
    Calls Try.prog 4 #[.agg #[.int .i64 a0, .int .i64 a1], .agg #[.int .i64 b0, .int .i64 b1]] w (Tells (.bool true) w) := by
  have HB0 : Below w.heap.size w ((w.alloc (.cells #[.int .i64 a0, .int .i64 a1] 48)).alloc (.cells #[.int .i64 b0, .int .i64 b1] 48)) := ((Below.refl _ w).alloc (Nat.le_refl _) _).alloc (by simp) _
  obtain ⟨W0, hW0⟩ : ∃ W0, W0 = (w.alloc (.cells #[.int .i64 a0, .int .i64 a1] 48)).alloc (.cells #[.int .i64 b0, .int .i64 b1] 48) := ⟨_, rfl⟩
  have k0 : W0.cell? ⟨w.heap.size, 0, none⟩ = some (.int .i64 a0) := by rw [hW0]; simp
  have k1 : W0.cell? ⟨w.heap.size, 1, none⟩ = some (.int .i64 a1) := by rw [hW0]; simp
  have k2 : W0.cell? ⟨w.heap.size + 1, 0, none⟩ = some (.int .i64 b0) := by rw [hW0]; simp
  have k3 : W0.cell? ⟨w.heap.size + 1, 1, none⟩ = some (.int .i64 b1) := by rw [hW0]; simp
  have hs0 : W0.heap.size = w.heap.size + 1 + 1 := by rw [hW0]; simp
  have HK := Go.Lib.hid (fun (W : World) (h : Below W0.heap.size W0 W) => (⟨(h.cell (p := ⟨w.heap.size, 0, none⟩) (by show w.heap.size < _; omega)).trans k0, (h.cell (p := ⟨w.heap.size, 1, none⟩) (by show w.heap.size < _; omega)).trans k1, (h.cell (p := ⟨w.heap.size + 1, 0, none⟩) (by show w.heap.size + 1 < _; omega)).trans k2, (h.cell (p := ⟨w.heap.size + 1, 1, none⟩) (by show w.heap.size + 1 < _; omega)).trans k3⟩ : W.cell? ⟨w.heap.size, 0, none⟩ = some (.int .i64 a0) ∧ W.cell? ⟨w.heap.size, 1, none⟩ = some (.int .i64 a1) ∧ W.cell? ⟨w.heap.size + 1, 0, none⟩ = some (.int .i64 b0) ∧ W.cell? ⟨w.heap.size + 1, 1, none⟩ = some (.int .i64 b1)))
  rw [← hW0] at HB0
  have HW := Go.Lib.hid hW0
  clear hW0 hs0
  go_enter Try.func4, Try.ntmps4
  go_wp2_with fail
  try (rw [← HW.out])
  go_wp2_with (first | (go_at_call 20; with_reducible refine (S0.out _).mono ?_; rintro e w' ⟨rfl, rfl⟩) | (go_at_call 20; with_reducible refine (S1.out _).mono ?_; rintro e w' ⟨rfl, rfl⟩) | (go_at_call 20; with_reducible refine (S2.out _).mono ?_; rintro e w' ⟨rfl, rfl⟩) | (go_at_call 20; with_reducible refine (S3.out _).mono ?_; rintro e w' ⟨rfl, rfl⟩))
  go_region_held3 (fun w' => w'.cell? ⟨w.heap.size, 0, none⟩ = some (.int .i64 a0) ∧ w'.cell? ⟨w.heap.size, 1, none⟩ = some (.int .i64 a1) ∧ w'.cell? ⟨w.heap.size + 1, 0, none⟩ = some (.int .i64 b0) ∧ w'.cell? ⟨w.heap.size + 1, 1, none⟩ = some (.int .i64 b1)) (exact ⟨k0, k1, k2, k3⟩) (fail)
  have hdr : Below W0.heap.size W0 W0.drew := (Below.refl _ W0).drew
  obtain ⟨z0, z1, z2, z3⟩ := HK.out _ hdr
  go_wp2_with fail
  try (rw [← HW.out])
  go_wp2_with (first | (go_at_call 20; with_reducible refine (S0.out _).mono ?_; rintro e w' ⟨rfl, rfl⟩) | (go_at_call 20; with_reducible refine (S1.out _).mono ?_; rintro e w' ⟨rfl, rfl⟩) | (go_at_call 20; with_reducible refine (S2.out _).mono ?_; rintro e w' ⟨rfl, rfl⟩) | (go_at_call 20; with_reducible refine (S3.out _).mono ?_; rintro e w' ⟨rfl, rfl⟩) | (go_at_call 21; refine (CF.out _).mono ?_; rintro e w1 ⟨rfl, hbx⟩; have hb1 : Below W0.heap.size W0 w1 := Go.RowKit.Below.trans hdr hbx; obtain ⟨m0, m1, m2, m3⟩ := HK.out w1 hb1; have HB1 := Go.Lib.hid hb1) | (go_at_call 22; have h2w := HB2.out; refine (CB.out _).mono ?_; rintro e w3 ⟨rfl, hb3⟩; have HB3 := Go.Lib.hid (HB2.out.trans (hb3.mono HB2.out.size))) | (go_at_call 22; refine (CA.out _).mono ?_; rintro e w2 ⟨rfl, hb2⟩; have HB2 := Go.Lib.hid (HB1.out.trans (hb2.mono HB1.out.size)); obtain ⟨n0, n1, n2, n3⟩ := HK.out w2 HB2.out) | (go_at_call 19; refine (CL.out _).mono ?_; rintro e w4 ⟨rfl, hb4⟩; have HB4 := Go.Lib.hid (HB3.out.trans (hb4.mono HB3.out.size))))
  go_ret
  exact ⟨rfl, HB0.trans (HB4.out.mono HB0.size)⟩
/-- TallyFar, over what Far, Apart and lives give. -/
theorem far_of (a0 a1 b0 b1 : Int) (w : World) (ha0 : (Lit.int .i64 a0).wf = true) (ha1 : (Lit.int .i64 a1).wf = true) (hb0 : (Lit.int .i64 b0).wf = true) (hb1 : (Lit.int .i64 b1).wf = true)
    (CF : ∀ (x y : Int) (W : World), (Lit.int .i64 x).wf = true → (Lit.int .i64 y).wf = true → Calls Try.prog 21 #[.int .i64 x, .int .i64 y] W (Tells (.int .i64 (farS x y)) W))
    (CA : ∀ (x y z u : Int) (W : World), (Lit.int .i64 x).wf = true → (Lit.int .i64 y).wf = true → (Lit.int .i64 z).wf = true → (Lit.int .i64 u).wf = true → Calls Try.prog 22 #[.agg #[.int .i64 x, .int .i64 y], .agg #[.int .i64 z, .int .i64 u]] W (Tells (.int .i64 (apartS x y z u)) W))
    (CL : ∀ W, Calls Try.prog 19 #[] W (Tells (.bool true) W)) :
    Calls Try.prog 4 #[.agg #[.int .i64 a0, .int .i64 a1], .agg #[.int .i64 b0, .int .i64 b1]] w (Tells (.bool true) w) := by
  have F0 := fun W => CF a0 a1 W ha0 ha1
  have P0 := fun W => CA a0 a1 b0 b1 W ha0 ha1 hb0 hb1
  have Q0 := fun W => CA b0 b1 a0 a1 W hb0 hb1 ha0 ha1
  have S0 := fun W => small_any a0 W
  have S1 := fun W => small_any a1 W
  have S2 := fun W => small_any b0 W
  have S3 := fun W => small_any b1 W
  simp only [apart_comm a0 a1 b0 b1] at Q0
  have L := Go.Lib.hid CL
  cases s0 : smallB a0
  · rw [s0] at S0
    have e1 : farS a0 a1 = 0 := by simp [farS, s0]
    have e2 : apartS a0 a1 b0 b1 = 0 := by simp [apartS, s0]
    simp only [e1, e2] at F0 P0 Q0
    exact far_case0 a0 a1 b0 b1 w (Go.Lib.hid S0) (Go.Lib.hid F0) (Go.Lib.hid P0) (Go.Lib.hid Q0) L
  · rw [s0] at S0
    cases s1 : smallB a1
    · rw [s1] at S1
      have e1 : farS a0 a1 = 0 := by simp [farS, s0, s1]
      have e2 : apartS a0 a1 b0 b1 = 0 := by simp [apartS, s0, s1]
      simp only [e1, e2] at F0 P0 Q0
      exact far_case1 a0 a1 b0 b1 w (Go.Lib.hid S0) (Go.Lib.hid S1) (Go.Lib.hid F0) (Go.Lib.hid P0) (Go.Lib.hid Q0) L
    · rw [s1] at S1
      have e1 : farS a0 a1 = a0 * a0 + a1 * a1 := by simp [farS, s0, s1]
      have k0 := small_iff.1 s0
      have k1 := small_iff.1 s1
      have m0 := sq_bound (n := 1048576) k0.1 k0.2
      have m1 := sq_bound (n := 1048576) k1.1 k1.2
      cases s2 : smallB b0
      · rw [s2] at S2
        have e2 : apartS a0 a1 b0 b1 = 0 := by simp [apartS, s0, s1, s2]
        simp only [e1, e2] at F0 P0 Q0
        exact far_case2 a0 a1 b0 b1 _ _ w (Go.Lib.hid S0) (Go.Lib.hid S1) (Go.Lib.hid S2) (wrap_id (by omega) (by omega)) (wrap_id (by omega) (by omega)) (wrap_id (by omega) (by omega)) (Go.Lib.hid F0) (Go.Lib.hid P0) (Go.Lib.hid Q0) L
      · rw [s2] at S2
        cases s3 : smallB b1
        · rw [s3] at S3
          have e2 : apartS a0 a1 b0 b1 = 0 := by simp [apartS, s0, s1, s2, s3]
          simp only [e1, e2] at F0 P0 Q0
          exact far_case3 a0 a1 b0 b1 _ _ w (Go.Lib.hid S0) (Go.Lib.hid S1) (Go.Lib.hid S2) (Go.Lib.hid S3) (wrap_id (by omega) (by omega)) (wrap_id (by omega) (by omega)) (wrap_id (by omega) (by omega)) (Go.Lib.hid F0) (Go.Lib.hid P0) (Go.Lib.hid Q0) L
        · rw [s3] at S3
          have k2 := small_iff.1 s2
          have k3 := small_iff.1 s3
          have n0 := sq_bound (x := a0 - b0) (n := 2097152) (by omega) (by omega)
          have n1 := sq_bound (x := a1 - b1) (n := 2097152) (by omega) (by omega)
          have e2 : apartS a0 a1 b0 b1 = (a0 - b0) * (a0 - b0) + (a1 - b1) * (a1 - b1) := by simp [apartS, s0, s1, s2, s3]
          simp only [e1, e2] at F0 P0 Q0
          exact far_case4 a0 a1 b0 b1 _ _ (a0 - b0) (a1 - b1) _ _ w (Go.Lib.hid S0) (Go.Lib.hid S1) (Go.Lib.hid S2) (Go.Lib.hid S3) (wrap_id (by omega) (by omega)) (wrap_id (by omega) (by omega)) (wrap_id (by omega) (by omega))
            (wrap_id (by omega) (by omega)) (wrap_id (by omega) (by omega)) (wrap_id (by omega) (by omega)) (wrap_id (by omega) (by omega)) (wrap_id (by omega) (by omega)) (Go.Lib.hid F0) (Go.Lib.hid P0) (Go.Lib.hid Q0) L
end Go.Proofs.Ytifaclbafmpiiaa.Tal
