/- AttrReads: the law's walk. -/
import Derived.Test.YtanmepgplpijkaaDoorG50
import Derived.Test.YtanmepgplpijkaaDoorG45
import Derived.Test.YtanmepgplpijkaaDoorG46
namespace Go.Proofs.YtanmepgplpijkaaDoor.Att
open Go.RowKit Mem Segm Oct Seg
set_option maxRecDepth 100000 in
set_option maxHeartbeats 8000000 in
theorem reads_walk (v : Value) (b0 : List Nat) (w : World) (hv : U8s w v b0) (hS : Shp w) :
    Calls Tryd.prog 4 #[v] w (Tells (.bool true) w) := by
  have hls : Small (b0.take 1500) := hv.2.take 1500
  have hl2 : (b0.take 1500).length ≤ 1500 := by rw [List.length_take]; omega
  have C1 := Go.Lib.hid (show Calls Tryd.prog 21 #[v, .int .i64 1500] w (Gives8 (b0.take 1500) w) from bytes_any v b0 1500 w hv (by decide))
  obtain ⟨L0, hL0⟩ : ∃ L0, L0 = b0.take 1500 := ⟨_, rfl⟩
  rw [← hL0] at hls hl2 C1
  have C2 := Go.Lib.hid (fun (v : Value) (W : World) (h : U8s W v L0) => show Calls Tryd.prog 21 #[v, .int .i64 1500] W (Gives8 L0 W) from by
    have h3 := bytes_any v L0 1500 W h (by decide)
    rw [List.take_of_length_le hl2] at h3
    exact h3)
  have HLS := Go.Lib.hid hls
  have CP := Go.Lib.hid (fun v W (h : U8s W v L0) (hb : Below w.heap.size w W) => decode_p v L0 W h (by omega) (hS.keep hb))
  have CR := Go.Lib.hid (fun v W (h : U8s W v L0) => decode_r v L0 W h (by omega))
  have CLV := Go.Lib.hid (fun W (h : Below w.heap.size w W) => lives8_any W (hS.keep h))
  obtain ⟨qm, hqm⟩ : ∃ qm, qm = outA (decodeA L0) := ⟨_, rfl⟩
  obtain ⟨q, m⟩ := qm
  have HQM := Go.Lib.hid hqm.symm
  have CS := Go.Lib.hid (fun va vb W (h1 : Attrs W va q) (h2 : Attrs W vb q) => show Calls Tryd.prog 9 #[va, vb] W (Tells (.bool true) W) from by
    have h3 := refSame8 va vb q q W h1 h2
    rw [show sameA q q = true from sameA_iff.2 rfl] at h3
    exact h3)
  have CT := Go.Lib.hid (fun va vb W (h1 : Note W va m) (h2 : Note W vb m) => show Calls Tryd.prog 18 #[va, vb] W (Tells (.bool true) W) from by
    have h3 := told_any va vb m m W h1 h2
    rw [sameN_iff.2 rfl] at h3
    exact h3)
  clear hL0 hv hls hl2 hS hqm
  unfold DecF at CP CR
  go_enter Tryd.func4, Tryd.ntmps4
  go_wp2_with (first
    | (go_at_call 21; have h := O1.out; refine (C2.out _ _ (U8s.of_own h HLS.out)).mono ?_; rintro e w2 ⟨A2, c2, rfl, ho, hb⟩; have O2 := Go.Lib.hid (U8s.of_own ho HLS.out); have B2 := Go.Lib.hid (B1.out.trans (hb.mono B1.out.size)); have K2 := Go.Lib.hid ((U8s.of_own h HLS.out).keep hb); clear ho hb h O1)
    | (go_at_call 21; refine C1.out.mono ?_; rintro e w1 ⟨A1, c1, rfl, ho, hb⟩; have O1 := Go.Lib.hid ho; have B1 := Go.Lib.hid hb; clear ho hb)
    | (go_at_call 22; first | (have h := O2.out; refine (CP.out _ _ h B2.out).mono ?_; rintro e x3 ⟨va, vn, rfl, hA, hN, hb⟩; rw [HQM.out] at hA hN; obtain ⟨hok, vp, vc, rfl, hP, hC⟩ := hA; obtain ⟨vd, rfl, hD⟩ := note_form hN; obtain ⟨A3p, c3p, rfl, -, -⟩ := hP.form; obtain ⟨A3c, c3c, rfl, -, -, -, -⟩ := hC.open_; obtain ⟨A3d, c3d, rfl, -, -⟩ := hD.form; have TT := read_boxes (Go.Lib.hid (show Attrs x3 (.agg #[.int .i64 q.has, .int .i64 q.origin, .slice A3p q.path.length c3p, .int .u32 q.hop, .int .u32 q.med, .int .u32 q.pref, .int .u32 q.aas, .int .u32 q.aid, .slice A3c q.comms.length c3c]) q from ⟨hok, _, _, rfl, hP, hC⟩)) (Go.Lib.hid hN); have R3 := Go.Lib.hid TT.1; have BL3 := Go.Lib.hid TT.2; have B3 := Go.Lib.hid ((B2.out.trans (hb.mono B2.out.size)).trans (BL3.out.mono (Nat.le_trans B2.out.size hb.size))); have K3 := Go.Lib.hid ((K2.out.keep hb).keep BL3.out); clear h O2; dsimp only [acells]; clear hok hP hC hD hN TT hb) | (trace "FELL 3"; trace_state; fail_if_success skip))
    | (go_at_call 23; first | (have h := K3.out; refine (CR.out _ _ h).mono ?_; rintro e x4 ⟨va, vn, rfl, hA, hN, hb⟩; rw [HQM.out] at hA hN; obtain ⟨hok, vp, vc, rfl, hP, hC⟩ := hA; obtain ⟨vd, rfl, hD⟩ := note_form hN; obtain ⟨A4p, c4p, rfl, -, -⟩ := hP.form; obtain ⟨A4c, c4c, rfl, -, -, -, -⟩ := hC.open_; obtain ⟨A4d, c4d, rfl, -, -⟩ := hD.form; have TT := read_boxes (Go.Lib.hid (show Attrs x4 (.agg #[.int .i64 q.has, .int .i64 q.origin, .slice A4p q.path.length c4p, .int .u32 q.hop, .int .u32 q.med, .int .u32 q.pref, .int .u32 q.aas, .int .u32 q.aid, .slice A4c q.comms.length c4c]) q from ⟨hok, _, _, rfl, hP, hC⟩)) (Go.Lib.hid hN); have R4 := Go.Lib.hid TT.1; have BL4 := Go.Lib.hid TT.2; have B4 := Go.Lib.hid ((B3.out.trans (hb.mono B3.out.size)).trans (BL4.out.mono (Nat.le_trans B3.out.size hb.size))); replace R3 := Go.Lib.hid ((R3.out.keep hb).keep BL4.out); clear h K3; obtain ⟨c0, c1, c2, c3, c4, c5, c6, c7, c8⟩ := R3.out.b9.cells; obtain ⟨d0, d1, d2⟩ := R3.out.b3.cells; obtain ⟨e0, e1, e2, e3, e4, e5, e6, e7, e8⟩ := R4.out.b9.cells; obtain ⟨g0, g1, g2⟩ := R4.out.b3.cells; dsimp only [acells]; clear hok hP hC hD hN TT hb) | (trace "FELL 4"; trace_state; fail_if_success skip))
    | (go_at_call 9; first | (refine (CS.out _ _ _ R3.out.at_ R4.out.at_).mono ?_; rintro e w5 ⟨rfl, hb⟩; have B5 := Go.Lib.hid (B4.out.trans (hb.mono B4.out.size)); replace R3 := Go.Lib.hid (R3.out.keep hb); replace R4 := Go.Lib.hid (R4.out.keep hb); clear hb c0 c1 c2 c3 c4 c5 c6 c7 c8 d0 d1 d2 e0 e1 e2 e3 e4 e5 e6 e7 e8 g0 g1 g2; obtain ⟨d0, d1, d2⟩ := R3.out.b3.cells; obtain ⟨g0, g1, g2⟩ := R4.out.b3.cells) | (trace "FELL S"; trace_state; fail_if_success skip))
    | (go_at_call 18; first | (refine (CT.out _ _ _ R3.out.no R4.out.no).mono ?_; rintro e w6 ⟨rfl, hb⟩; have B6 := Go.Lib.hid (B5.out.trans (hb.mono B5.out.size)); clear hb) | (trace "FELL T"; trace_state; fail_if_success skip))
    | (go_at_call 20; refine (CLV.out _ B6.out).mono ?_; rintro e w7 ⟨rfl, hb⟩; have B7 := Go.Lib.hid (B6.out.trans (hb.mono B6.out.size)); clear hb))
  go_ret
  exact ⟨rfl, B7.out⟩
end Go.Proofs.YtanmepgplpijkaaDoor.Att
