/- Which prefixes Pack leaves out. -/
import Derived.Test.YtaemhgmekggliaaPkFits
import Derived.Test.YtaemhgmekggliaaPkPredP
namespace Go.Proofs.Ytaemhgmekggliaa.PR
open Go.RowKit Mem Pfx Oct

def outB (room : Int) (p : Pf) : Bool := !good p || decide (room < (sizeN p : Int))
/-- The room stands in its box. -/
def RoomAt (bx : Nat) (room : Int) (W : World) : Prop := W.cell? ⟨bx, 0, none⟩ = some (.int .i64 room)
theorem room_kp {bx : Nat} {room : Int} {B : Nat} (h : bx < B) : Kp (RoomAt bx room) B := fun W W' hk hw => by
  have h1 := hk bx h
  unfold RoomAt World.cell? at hw ⊢
  simp only [h1]
  exact hw
theorem out_is (bx : Nat) (room : Int) : PRP.PredIs bx (outB room) (RoomAt bx room) := by
  intro p W0 hok hr
  obtain ⟨a, n⟩ := p
  have CZ := fun W => size_any ⟨a, n⟩ W hok.1
  have HO := Go.Lib.hid (show outB room ⟨a, n⟩ = (!goodB a n || decide (room < (sizeN ⟨a, n⟩ : Int))) from rfl)
  rw [HO.out]
  unfold pV at CZ ⊢
  dsimp only at CZ ⊢
  have CG := fun W => good_any a n hok.1 W
  unfold RoomAt at hr
  have hb := below_new W0 (.cells #[.int .u32 (a : Int), .int .i64 n] 31)
  obtain ⟨c0, c1⟩ := cells_two W0 (.int .u32 (a : Int)) (.int .i64 n) 31
  have c2 := (hb.cell (p := ⟨bx, 0, none⟩) (World.block_lt_of_cell? _ _ hr)).trans hr
  generalize sizeN ⟨a, n⟩ = z at CZ
  clear HO hr hok
  cases hg : goodB a n with
  | false =>
    rw [hg] at CG
    go_enter Try.func40, Try.ntmps40
    go_wp2_with fail
    generalize W0.alloc (.cells #[.int .u32 (a : Int), .int .i64 n] 31) = W at hb c0 c1 c2 ⊢
    have k0 := cell_regrown c0
    have k1 := cell_regrown c1
    have k2 := cell_regrown c2
    have cF := inRegion CG W
    refine wp_region_quiet_below (by kernel_rfl) (by kernel_rfl) ?_
    repeat (first | go_big_quiet_step (exact cF _ _) | quiet_step (exact cF _ _))
    refine wpQuiet_nil ?_
    intro _ hw'
    obtain ⟨⟨dq, osq⟩, hw''⟩ := hw'
    subst hw''
    go_wp2_with fail
    go_ret
    exact ⟨rfl, Pfx.Below.tr hb (below_regrown W dq osq)⟩
  | true =>
    rw [hg] at CG
    go_enter Try.func40, Try.ntmps40
    go_wp2_with fail
    generalize W0.alloc (.cells #[.int .u32 (a : Int), .int .i64 n] 31) = W at hb c0 c1 c2 ⊢
    have k0 := cell_regrown c0
    have k1 := cell_regrown c1
    have k2 := cell_regrown c2
    have cF := inRegion CG W
    have cZ := inRegion CZ W
    refine wp_region_quiet_below (by kernel_rfl) (by kernel_rfl) ?_
    repeat (first | go_big_quiet_step (first | exact cF _ _ | exact cZ _ _) | quiet_step (first | exact cF _ _ | exact cZ _ _))
    refine wpQuiet_nil ?_
    intro _ hw'
    obtain ⟨⟨dq, osq⟩, hw''⟩ := hw'
    subst hw''
    go_wp2_with fail
    go_ret
    exact ⟨rfl, Pfx.Below.tr hb (below_regrown W dq osq)⟩
end Go.Proofs.Ytaemhgmekggliaa.PR
