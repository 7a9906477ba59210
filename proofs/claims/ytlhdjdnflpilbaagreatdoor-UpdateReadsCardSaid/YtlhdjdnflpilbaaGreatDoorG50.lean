/- UpdateReads: the law's walk. -/
import Derived.Test.YtlhdjdnflpilbaaGreatDoorG45
import Derived.Test.YtlhdjdnflpilbaaGreatDoorG27
import Derived.Test.YtlhdjdnflpilbaaGreatDoorG47
import Derived.Test.YtlhdjdnflpilbaaGreatDoorG49
import Derived.Test.YtlhdjdnflpilbaaGreatDoorG21
namespace Go.Proofs.YtlhdjdnflpilbaaGreatDoor.Upd
open Go.RowKit Mem Segm Oct Att Seg PR
set_option maxRecDepth 100000 in
set_option maxHeartbeats 8000000 in
theorem reads_walk (v : Value) (b0 : List Nat) (w : World) (hv : U8s w v b0) (hS : Shp w) :
    Calls Tryz.prog 4 #[v] w (Tells (.bool true) w) := by
  have hls : Small (b0.take 1500) := hv.2.take 1500
  have hl2 : (b0.take 1500).length ≤ 1500 := by rw [List.length_take]; omega
  have C1 := Go.Lib.hid (show Calls Tryz.prog 16 #[v, .int .i64 1500] w (Gives8 (b0.take 1500) w) from bytes_any v b0 1500 w hv (by decide))
  obtain ⟨L0, hL0⟩ : ∃ L0, L0 = b0.take 1500 := ⟨_, rfl⟩
  rw [← hL0] at hls hl2 C1
  have C2 := Go.Lib.hid (fun (v : Value) (W : World) (h : U8s W v L0) => show Calls Tryz.prog 16 #[v, .int .i64 1500] W (Gives8 L0 W) from by
    have h3 := bytes_any v L0 1500 W h (by decide)
    rw [List.take_of_length_le hl2] at h3
    exact h3)
  have HLS := Go.Lib.hid hls
  obtain ⟨qm, hqm⟩ : ∃ qm, qm = outU (decU L0) := ⟨_, rfl⟩
  obtain ⟨q, m⟩ := qm
  have CP := Go.Lib.hid (fun v W (h : U8s W v L0) (hb : Below w.heap.size w W) => (udec_any v L0 W h (by omega) (hS.keep hb)).mono fun _ _ h2 => decU_of hqm.symm h2)
  have CR := Go.Lib.hid (fun v W (h : U8s W v L0) => (rdec_any v L0 W h (by omega)).mono fun _ _ h2 => decU_of hqm.symm h2)
  have CLV := Go.Lib.hid (fun W (h : Below w.heap.size w W) => lives10_any W (hS.keep h))
  have CS := Go.Lib.hid (fun va vb W (h1 : Upds W va q) (h2 : Upds W vb q) => show Calls Tryz.prog 10 #[va, vb] W (Tells (.bool true) W) from by
    have h3 := rsame_any va vb q q W h1 h2
    rw [show sameU q q = true from sameU_iff.2 rfl] at h3
    exact h3)
  have CT := Go.Lib.hid (fun va vb W (h1 : Note W va m) (h2 : Note W vb m) => show Calls Tryz.prog 15 #[va, vb] W (Tells (.bool true) W) from by
    have h3 := told_any va vb m m W h1 h2
    rw [sameN_iff.2 rfl] at h3
    exact h3)
  unfold uV at CP CR
  clear hL0 hv hls hl2 hS hqm
  go_enter Tryz.func4, Tryz.ntmps4
  go_wp2_with (first
    | (go_at_call 16; have h := O1.out; refine (C2.out _ _ (U8s.of_own h HLS.out)).mono ?_; rintro e w2 ⟨A2, c2, rfl, ho, hb⟩; have O2 := Go.Lib.hid (U8s.of_own ho HLS.out); have B2 := Go.Lib.hid (B1.out.trans (hb.mono B1.out.size)); have K2 := Go.Lib.hid ((U8s.of_own h HLS.out).keep hb); clear ho hb h O1)
    | (go_at_call 16; refine C1.out.mono ?_; rintro e w1 ⟨A1, c1, rfl, ho, hb⟩; have O1 := Go.Lib.hid ho; have B1 := Go.Lib.hid hb; clear ho hb)
    | (go_at_call 14; first | (have h := O2.out; refine (CP.out _ _ h B2.out).mono ?_; rintro e x3 ⟨Ag, ng, cg, Ap, np, cp, Ac, nc, cc, Ah, nh, ch, Ad, nd, cd, rfl, hU, hN, hb⟩; have TT := read10 hU hN; have R3 := Go.Lib.hid TT.1; have BL3 := Go.Lib.hid TT.2; have B3 := Go.Lib.hid ((B2.out.trans (hb.mono B2.out.size)).trans (TT.2.mono (Nat.le_trans B2.out.size hb.size))); have K3 := Go.Lib.hid ((K2.out.keep hb).keep TT.2); have KA := Go.Lib.hid (new10_11 x3); have KB := Go.Lib.hid (new10_3 x3 #[.slice Ag ng cg, .int .i64 q.at_.has, .int .i64 q.at_.origin, .slice Ap np cp, .int .u32 q.at_.hop, .int .u32 q.at_.med, .int .u32 q.at_.pref, .int .u32 q.at_.aas, .int .u32 q.at_.aid, .slice Ac nc cc, .slice Ah nh ch]); unfold new10 at R3 BL3 B3 K3 KA KB; clear h O2 K2 hU hN TT hb) | (trace "FELL P"; trace_state; fail_if_success skip))
    | (have h := KA.out; refine wpList_store_row rfl 29 (.tmp 3) (.tmp 13) rfl x3.heap.size #[.slice Ag ng cg, .int .i64 q.at_.has, .int .i64 q.at_.origin, .slice Ap np cp, .int .u32 q.at_.hop, .int .u32 q.at_.med, .int .u32 q.at_.pref, .int .u32 q.at_.aas, .int .u32 q.at_.aid, .slice Ac nc cc, .slice Ah nh ch] rfl rfl _ _ h (by kernel_rfl) rfl (by simp [Value.oneCell']) ?_; clear h; clear KA)
    | (have h := KB.out; refine wpList_store_row rfl 41 (.tmp 4) (.tmp 14) rfl (x3.heap.size + 1) #[.int .i64 m.code, .int .i64 m.sub, .slice Ad nd cd] rfl rfl _ _ h (by kernel_rfl) rfl (by simp [Value.oneCell']) ?_; clear h; clear KB)
    | (go_at_call 17; first | (have h := K3.out; refine (CR.out _ _ h).mono ?_; rintro e x4 ⟨Ag2, ng2, cg2, Ap2, np2, cp2, Ac2, nc2, cc2, Ah2, nh2, ch2, Ad2, nd2, cd2, rfl, hU, hN, hb⟩; have TT := read10 hU hN; have R4 := Go.Lib.hid TT.1; have B4 := Go.Lib.hid ((B3.out.trans (hb.mono B3.out.size)).trans (TT.2.mono (Nat.le_trans B3.out.size hb.size))); replace R3 := Go.Lib.hid ((R3.out.keep hb).keep TT.2); have KC := Go.Lib.hid (new10_11 x4); have KD := Go.Lib.hid (new10_3 x4 #[.slice Ag2 ng2 cg2, .int .i64 q.at_.has, .int .i64 q.at_.origin, .slice Ap2 np2 cp2, .int .u32 q.at_.hop, .int .u32 q.at_.med, .int .u32 q.at_.pref, .int .u32 q.at_.aas, .int .u32 q.at_.aid, .slice Ac2 nc2 cc2, .slice Ah2 nh2 ch2]); obtain ⟨c0, c1, c2, c3, c4, c5, c6, c7, c8, c9, c10⟩ := R3.out.bu.cells; obtain ⟨d0, d1, d2⟩ := R3.out.b3.cells; obtain ⟨e0, e1, e2, e3, e4, e5, e6, e7, e8, e9, e10⟩ := R4.out.bu.cells; obtain ⟨g0, g1, g2⟩ := R4.out.b3.cells; unfold new10 at R4 B4 R3 KC KD c0 c1 c2 c3 c4 c5 c6 c7 c8 c9 c10 d0 d1 d2 e0 e1 e2 e3 e4 e5 e6 e7 e8 e9 e10 g0 g1 g2; clear h K3 hU hN TT hb) | (trace "FELL R"; trace_state; fail_if_success skip))
    | (have h := KC.out; refine wpList_store_row rfl 29 (.tmp 5) (.tmp 18) rfl x4.heap.size #[.slice Ag2 ng2 cg2, .int .i64 q.at_.has, .int .i64 q.at_.origin, .slice Ap2 np2 cp2, .int .u32 q.at_.hop, .int .u32 q.at_.med, .int .u32 q.at_.pref, .int .u32 q.at_.aas, .int .u32 q.at_.aid, .slice Ac2 nc2 cc2, .slice Ah2 nh2 ch2] rfl rfl _ _ h (by kernel_rfl) rfl (by simp [Value.oneCell']) ?_; clear h; clear KC)
    | (have h := KD.out; refine wpList_store_row rfl 41 (.tmp 6) (.tmp 19) rfl (x4.heap.size + 1) #[.int .i64 m.code, .int .i64 m.sub, .slice Ad2 nd2 cd2] rfl rfl _ _ h (by kernel_rfl) rfl (by simp [Value.oneCell']) ?_; clear h; clear KD)
    | (go_at_call 10; first | (refine (CS.out _ _ _ R3.out.up R4.out.up).mono ?_; rintro e w5 ⟨rfl, hb⟩; have B5 := Go.Lib.hid (B4.out.trans (hb.mono B4.out.size)); replace R3 := Go.Lib.hid (R3.out.keep hb); replace R4 := Go.Lib.hid (R4.out.keep hb); clear hb c0 c1 c2 c3 c4 c5 c6 c7 c8 c9 c10 d0 d1 d2 e0 e1 e2 e3 e4 e5 e6 e7 e8 e9 e10 g0 g1 g2; obtain ⟨d0, d1, d2⟩ := R3.out.b3.cells; obtain ⟨g0, g1, g2⟩ := R4.out.b3.cells) | (trace "FELL S"; trace_state; fail_if_success skip))
    | (go_at_call 15; first | (refine (CT.out _ _ _ R3.out.no R4.out.no).mono ?_; rintro e w6 ⟨rfl, hb⟩; have B6 := Go.Lib.hid (B5.out.trans (hb.mono B5.out.size)); clear hb) | (trace "FELL T"; trace_state; fail_if_success skip))
    | (go_at_call 12; refine (CLV.out _ B6.out).mono ?_; rintro e w7 ⟨rfl, hb⟩; have B7 := Go.Lib.hid (B6.out.trans (hb.mono B6.out.size)); clear hb))
  go_ret
  exact ⟨rfl, B7.out⟩
end Go.Proofs.YtlhdjdnflpilbaaGreatDoor.Upd
