/- FrameSplits' walk, out of what Split gives. -/
import Derived.Test.YtgeekckoepnccaaFrmPieces
import Derived.Test.YtgeekckoepnccaaFrmWf
import Derived.Test.YtgeekckoepnccaaFrmSame
import Derived.Test.YtgeekckoepnccaaAttrTold
namespace Go.Proofs.Ytgeekckoepnccaa.Frm
open Go.RowKit Mem Oct Att
open Go.Lib (hid)

set_option maxRecDepth 100000 in
set_option maxHeartbeats 4000000 in
theorem splits_of (hS : ∀ v b W, U8s W v b → b.length ≤ 1000 → Calls Try.prog 17 #[v] W (PiecesF b W)) (hLV : ∀ W, Calls Try.prog 16 #[] W (Tells (.bool true) W)) (v : Value) (b0 : List Nat) (w : World) (hv : U8s w v b0) :
    Calls Try.prog 4 #[v] w (Tells (.bool true) w) := by
  have hls : Small (b0.take 1000) := hv.2.take 1000
  have hl2 : (b0.take 1000).length ≤ 1000 := by rw [List.length_take]; omega
  have C1 := hid (show Calls Try.prog 8 #[v, .int .i64 1000] w (Gives8 (b0.take 1000) w) from bytes_any v b0 1000 w hv (by decide))
  clear hv
  generalize b0.take 1000 = L0 at hls hl2 C1
  have C2 := hid (fun (v : Value) (W : World) (h : U8s W v L0) => show Calls Try.prog 8 #[v, .int .i64 1000] W (Gives8 L0 W) from by
    have h3 := bytes_any v L0 1000 W h (by decide)
    rw [List.take_of_length_le hl2] at h3
    exact h3)
  have HLS := hid hls
  have CS := hid (fun v W (h : U8s W v L0) => hS v L0 W h hl2)
  have CP := hid (fun v W (h : U8s W v L0) => pieces_any v L0 W h (by omega))
  have HW := pcs_wf L0
  unfold PiecesF at CS CP
  generalize pcs L0 = R at CS CP HW
  obtain ⟨P, E, n⟩ := R
  dsimp only at CS CP HW
  have HWW := hid HW
  have CM := hid (fun v x W (h : Frms W v P) (h2 : Frms W x P) => show Calls Try.prog 13 #[v, x] W (Tells (.bool true) W) from by
    have h3 := same12_any v x P P W h h2
    rw [decide_eq_true rfl] at h3
    exact h3)
  have CT := hid (fun v x W (h : Note W v n) (h2 : Note W x n) => show Calls Try.prog 14 #[v, x] W (Tells (.bool true) W) from by
    have h3 := told_any _ _ _ _ W h h2
    rw [sameN_iff.2 rfl] at h3
    exact h3)
  have CL := hid hLV
  clear hls hl2 HW hS hLV
  go_enter Try.func4, Try.ntmps4
  go_wp2_with (first
    | (have h := O1.out; go_at_call 8; refine (C2.out _ _ (U8s.of_own h HLS.out)).mono ?_; rintro e w2 ⟨A2, c2, rfl, ho, hb⟩; have O2 := hid (U8s.of_own ho HLS.out); have B2 := hid (B1.out.trans (hb.mono B1.out.size)); have K2 := hid ((U8s.of_own h HLS.out).keep hb); clear ho hb h O1)
    | (go_at_call 8; refine C1.out.mono ?_; rintro e w1 ⟨A1, c1, rfl, ho, hb⟩; have O1 := hid ho; have B1 := hid hb; clear ho hb)
    | (have h := O2.out; go_at_call 17; refine (CS.out _ _ h).mono ?_; rintro e x ⟨Af, cf, An, kn, cn, rfl, hf, hu, hb⟩; have hb2 := box_low x (.int .i64 n.code) (.int .i64 n.sub) (.slice An kn cn); have F3 := hid (hf.keep hb2); have N3 := hid (hu.keep hb2); have X3 := hid (Box3.new x 29 (.int .i64 n.code) (.int .i64 n.sub) (.slice An kn cn)); have B3 := hid ((B2.out.trans (hb.mono B2.out.size)).trans (hb2.mono (B2.out.trans (hb.mono B2.out.size)).size)); have K3 := hid ((K2.out.keep hb).keep hb2); clear hf hu hb hb2 h O2 K2)
    | (have h := K3.out; go_at_call 12; refine (CP.out _ _ h).mono ?_; rintro e y ⟨Ag, cg, Am, km, cm, rfl, hf, hu, hb⟩; have hb2 := box_low y (.int .i64 n.code) (.int .i64 n.sub) (.slice Am km cm); have F4 := hid ((F3.out.keep hb).keep hb2); have G4 := hid (hf.keep hb2); have M4 := hid (And.intro ((N3.out.keep hb).keep hb2) (hu.keep hb2)); have X4 := hid (And.intro ((X3.out.keep hb).keep hb2) (Box3.new y 29 (.int .i64 n.code) (.int .i64 n.sub) (.slice Am km cm))); have B4 := hid ((B3.out.trans (hb.mono B3.out.size)).trans (hb2.mono (B3.out.trans (hb.mono B3.out.size)).size)); clear hf hu hb hb2 h K3 F3 N3 X3)
    | (go_at_call 13; refine (CM.out _ _ _ F4.out G4.out).mono ?_; rintro e z ⟨rfl, hb⟩; have B5 := hid (B4.out.trans (hb.mono B4.out.size)); have M5 := hid (And.intro (M4.out.1.keep hb) (M4.out.2.keep hb)); obtain ⟨p0, p1, p2⟩ := (X4.out.1.keep hb).cells; obtain ⟨q0, q1, q2⟩ := (X4.out.2.keep hb).cells; clear hb F4 G4 M4 X4)
    | (go_at_call 14; refine (CT.out _ _ _ ⟨HWW.out.1, HWW.out.2, _, rfl, M5.out.1⟩ ⟨HWW.out.1, HWW.out.2, _, rfl, M5.out.2⟩).mono ?_; rintro e z2 ⟨rfl, hb⟩; have B6 := hid (B5.out.trans (hb.mono B5.out.size)); clear hb)
    | (go_at_call 16; refine (CL.out _).mono ?_; rintro e z3 ⟨rfl, hb⟩; have B7 := hid (B6.out.trans (hb.mono B6.out.size)); clear hb))
  go_ret
  exact ⟨rfl, B7.out⟩
end Go.Proofs.Ytgeekckoepnccaa.Frm
