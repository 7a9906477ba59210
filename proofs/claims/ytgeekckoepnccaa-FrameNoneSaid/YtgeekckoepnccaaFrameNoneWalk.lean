/- FrameNone's walk, out of what is told of no stream. -/
import Derived.Test.YtgeekckoepnccaaFrmHead
namespace Go.Proofs.Ytgeekckoepnccaa.Frm
open Go.RowKit Mem Oct Att
open Go.Lib (hid)

set_option maxRecDepth 100000 in
set_option maxHeartbeats 4000000 in
theorem none_of (hF : ∀ v b W, U8s W v b → b.length ≤ 50 → Calls Try.prog 9 #[.pointer none, v] W (fun e w' => ∃ A c A2 k2 c2, e = .returned (.tuple #[.slice A 0 c, .agg #[.int .i64 0, .int .i64 0, .slice A2 k2 c2]]) ∧ Below W.heap.size W w'))
    (hR : ∀ W, Calls Try.prog 15 #[.pointer none] W (fun e w' => e = .returned (.tuple #[]) ∧ Below W.heap.size W w'))
    (hN : ∀ W, Calls Try.prog 10 #[.pointer none] W (Tells (.int .i64 0) W)) (hB : ∀ W, Calls Try.prog 11 #[.pointer none] W (Tells (.bool false) W))
    (hLV : ∀ W, Calls Try.prog 16 #[] W (Tells (.bool true) W)) (v : Value) (b0 : List Nat) (w : World) (hv : U8s w v b0) :
    Calls Try.prog 6 #[v] w (Tells (.bool true) w) := by
  have hls : Small (b0.take 50) := hv.2.take 50
  have hl2 : (b0.take 50).length ≤ 50 := by rw [List.length_take]; omega
  have C1 := hid (show Calls Try.prog 8 #[v, .int .i64 50] w (Gives8 (b0.take 50) w) from bytes_any v b0 50 w hv (by decide))
  clear hv
  generalize b0.take 50 = L0 at hls hl2 C1
  have HLS := hid hls
  have CF := hid (fun v W (h : U8s W v L0) => hF v L0 W h hl2)
  have CR := hid hR
  have CN := hid hN
  have CB := hid hB
  have CL := hid hLV
  clear hls hl2 hF hR hN hB hLV
  go_enter Try.func6, Try.ntmps6
  go_wp2_with (first
    | (go_at_call 8; refine C1.out.mono ?_; rintro e w1 ⟨A1, c1, rfl, ho, hb⟩; have O1 := hid (U8s.of_own ho HLS.out); have B1 := hid hb; clear ho hb)
    | (go_at_call 9; refine (CF.out _ _ O1.out).mono ?_; rintro e x ⟨Af, cf, An, kn, cn, rfl, hb⟩; have hb2 := box_low x (.int .i64 0) (.int .i64 0) (.slice An kn cn); have X2 := hid (Box3.new x 29 (.int .i64 0) (.int .i64 0) (.slice An kn cn)); have B2 := hid ((B1.out.trans (hb.mono B1.out.size)).trans (hb2.mono (B1.out.trans (hb.mono B1.out.size)).size)); clear hb hb2 O1 B1)
    | (go_at_call 15; refine (CR.out _).mono ?_; rintro e y ⟨rfl, hb⟩; have B3 := hid (B2.out.trans (hb.mono B2.out.size)); obtain ⟨p0, p1, p2⟩ := (X2.out.keep hb).cells; clear hb X2 B2)
    | (go_at_call 10; refine (CN.out _).mono ?_; rintro e z ⟨rfl, hb⟩; have B4 := hid (B3.out.trans (hb.mono B3.out.size)); clear hb)
    | (go_at_call 11; refine (CB.out _).mono ?_; rintro e z2 ⟨rfl, hb⟩; have B5 := hid (B4.out.trans (hb.mono B4.out.size)); clear hb)
    | (go_at_call 16; refine (CL.out _).mono ?_; rintro e z3 ⟨rfl, hb⟩; have B7 := hid (B5.out.trans (hb.mono B5.out.size)); clear hb))
  go_ret
  exact ⟨rfl, B7.out⟩
end Go.Proofs.Ytgeekckoepnccaa.Frm
