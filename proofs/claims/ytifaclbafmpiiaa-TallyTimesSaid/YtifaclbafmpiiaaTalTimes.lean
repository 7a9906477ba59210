/- TallyTimes: the law's walk, over what its callees give. -/
import Derived.Test.YtifaclbafmpiiaaTalFar
namespace Go.Proofs.Ytifaclbafmpiiaa.Tal
open Go.RowKit Mem

set_option maxRecDepth 100000 in
set_option maxHeartbeats 4000000 in
theorem times_core (p q r s g0 g1 g2 g3 h0 h1 X Y Z : Int) (w : World) (wp : IntKind.i64.wrap p = p) (wq : IntKind.i64.wrap q = q) (wr : IntKind.i64.wrap r = r) (ws : IntKind.i64.wrap s = s)
    (e0 : IntKind.i64.wrap (p * r) = g0) (e1 : IntKind.i64.wrap (q * s) = g1) (e2 : IntKind.i64.wrap (p * s) = g2) (e3 : IntKind.i64.wrap (q * r) = g3) (f0 : IntKind.i64.wrap (g0 - g1) = h0) (f1 : IntKind.i64.wrap (g2 + g3) = h1) (y0 : IntKind.i64.wrap (Y * Z) = X)
    (C0 : Hid (∀ W, Calls Try.prog 21 #[.int .i64 h0, .int .i64 h1] W (Tells (.int .i64 X) W))) (C1 : Hid (∀ W, Calls Try.prog 21 #[.int .i64 p, .int .i64 q] W (Tells (.int .i64 Y) W)))
    (C2 : Hid (∀ W, Calls Try.prog 21 #[.int .i64 r, .int .i64 s] W (Tells (.int .i64 Z) W))) (CL : Hid (∀ W, Calls Try.prog 19 #[] W (Tells (.bool true) W))) :
    Calls Try.prog 5 #[.agg #[.int .i8 p, .int .i8 q], .agg #[.int .i8 r, .int .i8 s]] w (Tells (.bool true) w) := by
  have HB0 : Below w.heap.size w ((w.alloc (.cells #[.int .i8 p, .int .i8 q] 54)).alloc (.cells #[.int .i8 r, .int .i8 s] 54)) := ((Below.refl _ w).alloc (Nat.le_refl _) _).alloc (by simp) _
  obtain ⟨W0, hW0⟩ : ∃ W0, W0 = (w.alloc (.cells #[.int .i8 p, .int .i8 q] 54)).alloc (.cells #[.int .i8 r, .int .i8 s] 54) := ⟨_, rfl⟩
  have k0 : W0.cell? ⟨w.heap.size, 0, none⟩ = some (.int .i8 p) := by rw [hW0]; simp
  have k1 : W0.cell? ⟨w.heap.size, 1, none⟩ = some (.int .i8 q) := by rw [hW0]; simp
  have k2 : W0.cell? ⟨w.heap.size + 1, 0, none⟩ = some (.int .i8 r) := by rw [hW0]; simp
  have k3 : W0.cell? ⟨w.heap.size + 1, 1, none⟩ = some (.int .i8 s) := by rw [hW0]; simp
  rw [← hW0] at HB0
  have HW := Go.Lib.hid hW0
  clear hW0
  have hdr : Below W0.heap.size W0 W0.drew := (Below.refl _ W0).drew
  go_enter Try.func5, Try.ntmps5
  go_wp2_with fail
  try (rw [← HW.out])
  go_region_held3 (fun w' => w'.cell? ⟨w.heap.size, 0, none⟩ = some (.int .i8 p) ∧ w'.cell? ⟨w.heap.size, 1, none⟩ = some (.int .i8 q) ∧ w'.cell? ⟨w.heap.size + 1, 0, none⟩ = some (.int .i8 r) ∧ w'.cell? ⟨w.heap.size + 1, 1, none⟩ = some (.int .i8 s)) (exact ⟨k0, k1, k2, k3⟩) (fail)
  go_wp2_with (first
    | (go_at_call 21; have h2w := HB2.out; refine (C2.out _).mono ?_; rintro e w3 ⟨rfl, hb3⟩; have HB3 := Go.Lib.hid (h2w.trans (hb3.mono h2w.size)))
    | (go_at_call 21; have h1w := HB1.out; refine (C1.out _).mono ?_; rintro e w2 ⟨rfl, hb2⟩; have HB2 := Go.Lib.hid (h1w.trans (hb2.mono h1w.size)))
    | (go_at_call 21; refine (C0.out _).mono ?_; rintro e w1 ⟨rfl, hb1⟩; have HB1 := Go.Lib.hid (Go.RowKit.Below.trans hdr hb1))
    | (go_at_call 19; refine (CL.out _).mono ?_; rintro e w4 ⟨rfl, hb4⟩; have HB4 := Go.Lib.hid (HB3.out.trans (hb4.mono HB3.out.size))))
  go_ret
  exact ⟨rfl, HB0.trans (HB4.out.mono HB0.size)⟩

theorem far_small {x y : Int} (hx : -1048576 ≤ x ∧ x ≤ 1048576) (hy : -1048576 ≤ y ∧ y ≤ 1048576) : farS x y = x * x + y * y := by
  unfold farS
  rw [small_iff.2 hx, small_iff.2 hy]; rfl
theorem wf_of {x : Int} (h : -1048576 ≤ x ∧ x ≤ 1048576) : (Lit.int .i64 x).wf = true := by
  have m1 : IntKind.i64.min = -9223372036854775808 := by decide
  have m2 : IntKind.i64.max = 9223372036854775807 := by decide
  simp [Lit.wf]; omega
/-- TallyTimes, over what Far and lives give. -/
theorem times_of (p q r s : Int) (w : World) (hp : -128 ≤ p ∧ p ≤ 127) (hq : -128 ≤ q ∧ q ≤ 127) (hr : -128 ≤ r ∧ r ≤ 127) (hs : -128 ≤ s ∧ s ≤ 127)
    (CF : ∀ (x y : Int) (W : World), (Lit.int .i64 x).wf = true → (Lit.int .i64 y).wf = true → Calls Try.prog 21 #[.int .i64 x, .int .i64 y] W (Tells (.int .i64 (farS x y)) W))
    (CL : ∀ W, Calls Try.prog 19 #[] W (Tells (.bool true) W)) :
    Calls Try.prog 5 #[.agg #[.int .i8 p, .int .i8 q], .agg #[.int .i8 r, .int .i8 s]] w (Tells (.bool true) w) := by
  have b0 := prod_bound (x := p) (y := r) (n := 128) (by omega) (by omega) (by omega) (by omega)
  have b1 := prod_bound (x := q) (y := s) (n := 128) (by omega) (by omega) (by omega) (by omega)
  have b2 := prod_bound (x := p) (y := s) (n := 128) (by omega) (by omega) (by omega) (by omega)
  have b3 := prod_bound (x := q) (y := r) (n := 128) (by omega) (by omega) (by omega) (by omega)
  have c0 := sq_bound (x := p) (n := 128) (by omega) (by omega)
  have c1 := sq_bound (x := q) (n := 128) (by omega) (by omega)
  have c2 := sq_bound (x := r) (n := 128) (by omega) (by omega)
  have c3 := sq_bound (x := s) (n := 128) (by omega) (by omega)
  have d0 := prod_bound (x := p * p + q * q) (y := r * r + s * s) (n := 32768) (by omega) (by omega) (by omega) (by omega)
  have k0 : -1048576 ≤ p * r - q * s ∧ p * r - q * s ≤ 1048576 := by omega
  have k1 : -1048576 ≤ p * s + q * r ∧ p * s + q * r ≤ 1048576 := by omega
  have F0 := fun W => CF (p * r - q * s) (p * s + q * r) W (wf_of k0) (wf_of k1)
  have F1 := fun W => CF p q W (wf_of (by omega)) (wf_of (by omega))
  have F2 := fun W => CF r s W (wf_of (by omega)) (wf_of (by omega))
  simp only [far_small k0 k1, far_small (x := p) (y := q) (by omega) (by omega), far_small (x := r) (y := s) (by omega) (by omega)] at F0 F1 F2
  refine times_core p q r s (p * r) (q * s) (p * s) (q * r) (p * r - q * s) (p * s + q * r) _ _ _ w (wrap_id (by omega) (by omega)) (wrap_id (by omega) (by omega)) (wrap_id (by omega) (by omega)) (wrap_id (by omega) (by omega)) (wrap_id (by omega) (by omega)) (wrap_id (by omega) (by omega))
    (wrap_id (by omega) (by omega)) (wrap_id (by omega) (by omega)) (wrap_id (by omega) (by omega)) (wrap_id (by omega) (by omega)) ?_ (Go.Lib.hid F0) (Go.Lib.hid F1) (Go.Lib.hid F2) (Go.Lib.hid CL)
  rw [times_id]
  exact wrap_id (by omega) (by omega)
end Go.Proofs.Ytifaclbafmpiiaa.Tal
