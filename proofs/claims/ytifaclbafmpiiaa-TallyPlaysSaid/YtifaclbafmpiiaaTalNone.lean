/- TallyNone: the law's walk, over what its callees give of no tally. -/
import Derived.Test.YtifaclbafmpiiaaActMem
import Derived.Outline
namespace Go.Proofs.Ytifaclbafmpiiaa.Tal
open Go.RowKit Mem

/-- What New gives: a tally that stands. -/
def NewT (T : World → Value → Prop) (w : World) (e : Ending) (w' : World) : Prop := ∃ v, e = .returned v ∧ T w' v ∧ Below w.heap.size w w'
/-- No keys. -/
def NoKeys (w : World) (e : Ending) (w' : World) : Prop := ∃ A c, e = .returned (.slice A 0 c) ∧ Below w.heap.size w w'

set_option maxRecDepth 100000 in
set_option maxHeartbeats 4000000 in
theorem none_of (T : World → Value → Prop) (HK0 : ∀ W W' v, T W v → Below W.heap.size W W' → T W' v) (a : Act) (w : World)
    (C1 : Hid (∀ (k : Nat) W, Calls Try.prog 17 #[.pointer none, .int .u32 k] W (Tells (.tuple #[.int .i64 0, .int .i64 0]) W)))
    (C2 : Hid (∀ W, Calls Try.prog 18 #[.pointer none] W (Tells (.tuple #[.int .i64 0, .int .i64 0]) W)))
    (C3 : Hid (∀ (k : Nat) W, Calls Try.prog 10 #[.pointer none, .int .u32 k] W (Tells (.tuple #[]) W)))
    (C4 : Hid (∀ W, Calls Try.prog 8 #[] W (NewT T W)))
    (C5 : Hid (∀ (k : Nat) W, Calls Try.prog 12 #[.pointer none, .int .u32 k, .int .i64 1, .int .i64 1] W (Tells (.int .i64 1) W)))
    (C6 : Hid (∀ W, Calls Try.prog 16 #[.pointer none] W (NoKeys W)))
    (C7 : Hid (∀ v W, T W v → Calls Try.prog 14 #[.pointer none, v] W (Tells (.int .i64 1) W)))
    (C8 : Hid (∀ v W, T W v → Calls Try.prog 14 #[v, .pointer none] W (Tells (.int .i64 1) W)))
    (C9 : Hid (∀ v W, T W v → Calls Try.prog 14 #[v, v] W (Tells (.int .i64 1) W)))
    (C10 : Hid (∀ (k : Nat) W, Calls Try.prog 11 #[.pointer none, .int .u32 k] W (Tells (.bool false) W)))
    (CL : Hid (∀ W, Calls Try.prog 19 #[] W (Tells (.bool true) W))) :
    Calls Try.prog 7 #[actV a] w (Tells (.bool true) w) := by
  have HKP := Go.Lib.hid HK0
  obtain ⟨k0, key, u0, d0⟩ := a
  have HB0 : Below w.heap.size w (w.alloc (.cells #[.int .i64 k0, .int .u32 key, .int .i64 u0, .int .i64 d0] 28)) := (Below.refl _ w).alloc (Nat.le_refl _) _
  obtain ⟨W0, hW0⟩ : ∃ W0, W0 = w.alloc (.cells #[.int .i64 k0, .int .u32 key, .int .i64 u0, .int .i64 d0] 28) := ⟨_, rfl⟩
  have c0 : W0.cell? ⟨w.heap.size, 1, none⟩ = some (.int .u32 key) := by rw [hW0]; simp
  have hs0 : w.heap.size < W0.heap.size := by rw [hW0]; simp
  rw [← hW0] at HB0
  have HC := Go.Lib.hid (fun W (h : Below W0.heap.size W0 W) => (h.cell (p := ⟨w.heap.size, 1, none⟩) hs0).trans c0)
  have HW := Go.Lib.hid hW0
  clear hW0 HK0
  unfold actV
  dsimp only
  go_enter Try.func7, Try.ntmps7
  go_wp2_with fail
  try (rw [← HW.out])
  go_wp2_with (first
    | (go_at_call 17; refine (C1.out _ _).mono ?_; rintro e w1 ⟨rfl, hb1⟩; have B1 := Go.Lib.hid hb1)
    | (go_at_call 18; refine (C2.out _).mono ?_; rintro e w2 ⟨rfl, hb2⟩; have B2 := Go.Lib.hid (B1.out.trans (hb2.mono B1.out.size)); have c2 := HC.out _ B2.out)
    | (go_at_call 10; refine (C3.out _ _).mono ?_; rintro e w3 ⟨rfl, hb3⟩; have B3 := Go.Lib.hid (B2.out.trans (hb3.mono B2.out.size)))
    | (go_at_call 8; refine (C4.out _).mono ?_; rintro e w4 ⟨v, rfl, hT, hb4⟩; have B4 := Go.Lib.hid (B3.out.trans (hb4.mono B3.out.size)); have c4 := HC.out _ B4.out; have T4 := Go.Lib.hid hT; clear hT)
    | (go_at_call 12; refine (C5.out _ _).mono ?_; rintro e w5 ⟨rfl, hb5⟩; have B5 := Go.Lib.hid (B4.out.trans (hb5.mono B4.out.size)); have T5 := Go.Lib.hid (HKP.out _ _ _ T4.out hb5))
    | (go_at_call 16; refine (C6.out _).mono ?_; rintro e w6 ⟨A, c, rfl, hb6⟩; have B6 := Go.Lib.hid (B5.out.trans (hb6.mono B5.out.size)); have T6 := Go.Lib.hid (HKP.out _ _ _ T5.out hb6))
    | (go_at_call 14; have t8 := T8.out; refine (C9.out _ _ t8).mono ?_; rintro e w9 ⟨rfl, hb9⟩; have B9 := Go.Lib.hid (B8.out.trans (hb9.mono B8.out.size)); have c9 := HC.out _ B9.out)
    | (go_at_call 14; have t7 := T7.out; refine (C8.out _ _ t7).mono ?_; rintro e w8 ⟨rfl, hb8⟩; have B8 := Go.Lib.hid (B7.out.trans (hb8.mono B7.out.size)); have T8 := Go.Lib.hid (HKP.out _ _ _ T7.out hb8))
    | (go_at_call 14; have t6 := T6.out; refine (C7.out _ _ t6).mono ?_; rintro e w7 ⟨rfl, hb7⟩; have B7 := Go.Lib.hid (B6.out.trans (hb7.mono B6.out.size)); have T7 := Go.Lib.hid (HKP.out _ _ _ T6.out hb7))
    | (go_at_call 11; refine (C10.out _ _).mono ?_; rintro e w10 ⟨rfl, hb10⟩; have B10 := Go.Lib.hid (B9.out.trans (hb10.mono B9.out.size)))
    | (go_at_call 19; refine (CL.out _).mono ?_; rintro e w11 ⟨rfl, hb11⟩; have B11 := Go.Lib.hid (B10.out.trans (hb11.mono B10.out.size))))
  go_ret
  exact ⟨rfl, HB0.trans (B11.out.mono HB0.size)⟩
end Go.Proofs.Ytifaclbafmpiiaa.Tal
