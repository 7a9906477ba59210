/- math/bits.TrailingZeros32, by its table. -/
import Derived.Test.YtgjdpmpbldofpaaDoorWlkFill
import Derived.Test.YtgjdpmpbldofpaaDoorPfxWalkA
import Derived.Lib.LaidTab
import Derived.WalkSmall
import Derived.Lib.TrailingZeros
namespace Go.Proofs.YtgjdpmpbldofpaaDoor.Wlk
open Go.RowKit Mem Pfx PR

def TabZ (w : World) : Prop := Lib.TabIs Tryd.prog w "math/bits.deBruijn32tab" .u8 (Lib.deBruijn32tab.map (fun n : Nat => (n : Int)))
theorem gTz : Tryd.prog.globalNamed "math/bits.deBruijn32tab" = some 0 := by kernel_rfl
theorem tabz_below {w w' : World} (h : TabZ w) (hb : Below w.heap.size w w') : TabZ w' := by
  have hc := h.cell gTz 0 (by decide)
  exact var?_below hb gTz (block_lt_of_cell hc) h
theorem low_nat (a x : Nat) (hx : x < 4294967296) (hx0 : x ≠ 0) (hlow : x &&& (4294967296 - x) = a) :
    bits BinOp.and IntKind.u32 (x : Int) (-(x : Int) % 4294967296) * 125613361 % 4294967296 / 134217728 = ((a * 125613361 % 4294967296 / 134217728 : Nat) : Int) := by
  have e1 : -(x : Int) % 4294967296 = ((4294967296 - x : Nat) : Int) := by omega
  rw [e1, u32_and_nat x _ hx (by omega), hlow]
  omega
set_option maxHeartbeats 2000000 in
theorem tz_any (x : Nat) (hx : x < 4294967296) (w : World) (hT : TabZ w) : Calls Tryd.prog 39 #[.int .u32 x] w fun e w' => e = .returned (.int .i64 (Lib.ctz 32 x)) ∧ w' = w := by
  by_cases hx0 : x = 0
  · subst hx0
    rw [show ((0 : Nat) : Int) = 0 from rfl, show ((Lib.ctz 32 0 : Nat) : Int) = 32 from rfl]
    clear hT hx
    go_enter Tryd.func39, Tryd.ntmps39
    go_wp2
    go_ret
    exact ⟨rfl, rfl⟩
  · obtain ⟨k, hlow, hk, hkk⟩ : ∃ k, x &&& (4294967296 - x) = 2 ^ k ∧ k < 32 ∧ Lib.ctz 32 x = k := by
      obtain ⟨h1, h2⟩ := Lib.lowest_bit 32 x hx0 hx
      exact ⟨_, h1, h2, rfl⟩
    obtain ⟨hi, htab⟩ := Lib.deBruijn32_at k hk
    have key := low_nat _ x hx hx0 hlow
    obtain ⟨idx, hidx⟩ : ∃ idx, idx = 2 ^ k * 125613361 % 4294967296 / 134217728 := ⟨_, rfl⟩
    rw [← hidx] at key hi htab
    clear hidx hlow
    have hlen : Lib.deBruijn32tab.length = 32 := by decide
    have hi2 : idx < Lib.deBruijn32tab.length := by rw [hlen]; exact hi
    have hc := hT.cell gTz idx (by rw [List.length_map]; exact hi2)
    have e : (Lib.deBruijn32tab.map (fun n : Nat => (n : Int))).getD idx 0 = ((Lib.deBruijn32tab.getD idx 0 : Nat) : Int) := by
      simp only [List.getD, List.getElem?_map, List.getElem?_eq_getElem hi2, Option.map_some, Option.getD_some]
    rw [e, htab] at hc
    rw [hkk]
    clear e htab hi2 hlen hkk hT
    have y0 : ((x : Int) == 0) = false := by simp; omega
    go_enter Tryd.func39, Tryd.ntmps39
    go_wp2_with (simp only [key])
    go_ret
    exact ⟨rfl, rfl⟩
end Go.Proofs.YtgjdpmpbldofpaaDoor.Wlk
