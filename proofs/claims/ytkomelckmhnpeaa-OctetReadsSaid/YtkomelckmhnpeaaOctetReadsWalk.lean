/- OctetReads' walk: a round by its pieces. -/
import Derived.Test.YtkomelckmhnpeaaReadsSteps
import Derived.Test.YtkomelckmhnpeaaReadsNum
import Derived.Test.YtkomelckmhnpeaaReadsTake
import Derived.Test.YtkomelckmhnpeaaReadsPart
import Derived.Test.YtkomelckmhnpeaaReadsRest
import Derived.Test.YtkomelckmhnpeaaReadsChk
import Derived.Deep.RegionHeld3
import Derived.BigQuiet
namespace Go.Proofs.Ytkomelckmhnpeaa.Oct
open Go.RowKit Mem Ahead Kit

set_option maxRecDepth 1000000 in
set_option maxHeartbeats 16000000 in
theorem reads_walk (v0 v1 v2 : Value) (b0 ks : List Nat) (ss : List Int) (w : World) (h0 : U8s w v0 b0) (h1 : U8s w v1 ks) (h2 : I64s w v2 ss) :
    Calls Try.prog 3 #[v0, v1, v2] w (Tells (.bool true) w) := by
  have hls : Small (b0.take 200) := h0.2.take 200
  have hl2 : (b0.take 200).length ≤ 200 := by rw [List.length_take]; omega
  have C1 := Go.Lib.hid (show Calls Try.prog 7 #[v0, .int .i64 200] w (Gives8 (b0.take 200) w) from bytes_any v0 b0 200 w h0 (by decide))
  obtain ⟨L0, hL0⟩ : ∃ L0, L0 = b0.take 200 := ⟨_, rfl⟩
  rw [← hL0] at hls hl2 C1
  have C2 := Go.Lib.hid (fun (v : Value) (W : World) (h : U8s W v L0) => show Calls Try.prog 7 #[v, .int .i64 200] W (Gives8 L0 W) from by
    have h3 := bytes_any v L0 200 W h (by decide)
    rw [List.take_of_length_le hl2] at h3
    exact h3)
  have C3 := Go.Lib.hid (fun (v : Value) (W : World) (h : U8s W v L0) => new_any v L0 W h (by omega))
  have CL := Go.Lib.hid lives_any
  have H1 := Go.Lib.hid h1
  have H2 := Go.Lib.hid h2
  have HLS := Go.Lib.hid hls
  have HL2 := Go.Lib.hid hl2
  obtain ⟨Ak, ck, rfl, hkc, _⟩ := h1.form
  obtain ⟨As, cs, rfl, hsc⟩ := h2.form
  clear hL0 h0 h1 h2 hls hl2
  go_enter Try.func3, Try.ntmps3
  go_wp2_with (first
    | (go_at_call 7; have h := O1.out; refine (C2.out _ _ (U8s.of_own h HLS.out)).mono ?_; rintro e w2 ⟨A2, c2, rfl, ho, hb⟩; have O2 := Go.Lib.hid ho; have B2 := Go.Lib.hid hb; clear ho hb h)
    | (go_at_call 7; refine C1.out.mono ?_; rintro e w1 ⟨A1, c1, rfl, ho, hb⟩; have O1 := Go.Lib.hid ho; have B1 := Go.Lib.hid hb; clear ho hb)
    | (go_at_call 8; refine (C3.out _ _ (U8s.of_own O2.out HLS.out)).mono ?_; rintro e w3 ⟨b, rfl, hR, hb⟩; have S3 := Go.Lib.hid (rd_start HLS.out HL2.out O1.out B1.out B2.out hR hb); clear hR hb))
  obtain ⟨n, hn⟩ : ∃ n, n = w3.heap.size := ⟨_, rfl⟩
  obtain ⟨F, hF⟩ : ∃ F : Nat → Prop, F = fun k => k = b := ⟨_, rfl⟩
  obtain ⟨P, hP⟩ : ∃ P : Value, P = .pointer (some ⟨b, 0, none⟩) := ⟨_, rfl⟩
  have S4 := Go.Lib.hid (show Rd w n P F L0 false (.slice A1 L0.length c1) w3 by rw [hn, hF, hP]; exact S3.out)
  rw [← hP]
  clear hn hF hP S3 C1 C2 C3 O1 O2 B1 B2
  go_loopw [8, 9, 10] (fun v8 v9 v10 wx => ∃ (i : Nat) (A : Option Addr) (m c : Nat) (l : List Nat) (bd : Bool), i ≤ 60 ∧ v10 = .int .i64 i ∧ v8 = .slice A m c ∧ v9 = .bool bd ∧ m = l.length ∧ Hid (Small l) ∧ Rd w n P F l bd (.slice A m c) wx) (fun _ _ v10 _ => 60 - (intOf v10).toNat)
  case atStart => exact ⟨0, _, _, _, L0, false, by omega, rfl, rfl, rfl, rfl, HLS, S4.out⟩
  case round =>
    obtain ⟨i, A, m, c, l, bd, hi, rfl, rfl, rfl, rfl, HSM, hR⟩ := hrel
    have HR := Go.Lib.hid hR
    have z0 : (0 : Int) ≤ (i : Int) := by omega
    by_cases hlt : i < ks.length
    · by_cases hls : i < ss.length
      · by_cases hl6 : i < 60
        · obtain ⟨bk, ok, kk, rfl, hkb, hkk, hk256, kc⟩ := (H1.out).at_ hlt
          obtain ⟨bs, os, sz, rfl, hsb, hss, hwf, sc⟩ := (H2.out).at_ hls
          have j1 := (hR.below.cell (p := ⟨bk, ok + i, none⟩) hkb).trans kc
          have j2 := (hR.below.cell (p := ⟨bs, os + i, none⟩) hsb).trans sc
          have z1 : (i : Int) < (ks.length : Int) := by omega
          have z2 : (i : Int) < (ss.length : Int) := by omega
          have z3 : (i : Int) < 60 := by omega
          have HSZW := Go.Lib.hid hwf
          have hlc : l.length ≤ c := by obtain ⟨_, _, e, h, _⟩ := hR.left.1.form; injection e with e1 e2 e3; omega
          have hcm : c ≤ 9223372036854775807 := by obtain ⟨_, _, e, _, h⟩ := hR.left.1.form; injection e with e1 e2 e3; omega
          have hl2 := hR.big
          have hsz : -9223372036854775808 ≤ sz ∧ sz ≤ 9223372036854775807 := by simpa [Lit.wf, IntKind.min, IntKind.max, IntKind.signed, IntKind.bits] using hwf
          clear kc sc hkk hss hR hwf hkb hsb
          have hr : kk % 6 = 0 ∨ kk % 6 = 1 ∨ kk % 6 = 2 ∨ kk % 6 = 3 ∨ kk % 6 = 4 ∨ kk % 6 = 5 := by omega
          rcases hr with hr | hr | hr | hr | hr | hr
          · have hm6 : (kk : Int) % 6 = 0 := by omega
            clear hr
            cases bd with
            | true =>
              have HF := Go.Lib.hid (show fails l true 1 = true from fails_bad l 1)
              go_upto_block 2 with fail
              rename_i KK HKK
              try rw [hm6]
              refine wp_code (C := rdSw) (by kernel_rfl) ?_
              refine sw_u8 _ _ _ _ _ _ _ _ _ _ _ _ _ _ _ _ _ _ _ _ _ _ _ _ _ _ _ _ _ _ _ _ _ _ _ _ _ _ _ _ _ _ _ _ _ _ _ _ _ _ _ _ _ _ _ _ _ _ _ _ _ _ _ _ _ _ _ _ _ _ _ _ _ _ _ _ _ _ _ _ _ _ _ _ _ _ _ _ _ _ _ _ _ _ _ _ _ _ _ _ _ _ _ _ _ _ _ _ _ _ _ _ _ _ _ _ _ _ _ _ _ _ _ _ _ _ _ _ _ _ _ _ _ _ _ _ _ _ _ _ _ _ _ _ _ _ _ _ _ _ _ _ _ _ _ _ l _ _ _ w _ _ _ (sw_none HR.out HSM.out HF.out) (HF.out.symm) ((by rw [(fails_of HF.out).1]; rfl)) ?_
              intro y16 y79 y80 y81 y82 y83 y84 y85 y86 y87 y88 y89 y90 y91 y92 y93 y94 y95 y96 y97 y98 y99 y100 y101 y102 y103 y104 y105 y106 y107 y108 y109 y110 y111 y112 y113 y114 y115 y116 y117 y118 y119 y120 y121 y122 y123 y124 y125 y126 y127 y128 y129 y130 y131 y132 y133 y134 y135 y136 y137 y138 y139 y140 W2 hR2
              refine HKK _ _ ?_
              refine wp_code (C := rdChk) (by kernel_rfl) ?_
              refine chk_rd _ _ _ _ _ _ _ _ _ _ _ _ _ _ _ _ _ _ _ _ _ _ _ _ _ _ _ _ _ _ _ _ _ _ _ _ _ _ _ _ _ _ _ _ _ _ _ _ _ _ _ _ _ _ _ _ _ _ _ _ _ _ _ _ _ _ _ _ _ _ _ _ _ _ _ _ _ _ _ _ _ _ _ _ _ _ _ _ _ _ _ _ _ _ _ _ _ _ _ _ _ _ _ _ _ _ _ _ _ _ _ _ _ _ _ _ _ _ _ _ _ _ _ _ _ _ _ _ _ _ _ _ _ _ _ _ _ _ _ _ _ _ _ _ _ _ _ _ _ _ _ _ _ _ _ _ _ _ (rest l true 1) (fails l true 1) _ _ w _ _ hR2 (HF.out.symm) ((by rw [(fails_of HF.out).2]; rfl)) ?_
              intro z141 z142 z143 z144 z145 z146 z147 z148 z149 z150 z151 z152 z153 z154 z155 W3 hR3
              have HR3 := Go.Lib.hid hR3
              clear hR2 hR3
              go_wp2
              go_roundw
              case rel => exact ⟨i + 1, _, _, _, rest l true 1, true, by omega, by go_num, rfl, rfl, (by rw [(fails_of HF.out).2]; rfl), Go.Lib.hid (rest_small HSM.out), by have h9 := HR3.out; rw [show fails l true 1 = true from (HF.out.symm).symm] at h9; exact h9⟩
              case measure => simp [intOf]; omega
            | false =>
              by_cases hx : l.length < 1
              · have y1 : (l.length : Int) < 1 := by omega
                have HF := Go.Lib.hid (show fails l false 1 = true from fails_long y1)
                go_upto_block 2 with fail
                rename_i KK HKK
                try rw [hm6]
                refine wp_code (C := rdSw) (by kernel_rfl) ?_
                refine sw_u8 _ _ _ _ _ _ _ _ _ _ _ _ _ _ _ _ _ _ _ _ _ _ _ _ _ _ _ _ _ _ _ _ _ _ _ _ _ _ _ _ _ _ _ _ _ _ _ _ _ _ _ _ _ _ _ _ _ _ _ _ _ _ _ _ _ _ _ _ _ _ _ _ _ _ _ _ _ _ _ _ _ _ _ _ _ _ _ _ _ _ _ _ _ _ _ _ _ _ _ _ _ _ _ _ _ _ _ _ _ _ _ _ _ _ _ _ _ _ _ _ _ _ _ _ _ _ _ _ _ _ _ _ _ _ _ _ _ _ _ _ _ _ _ _ _ _ _ _ _ _ _ _ _ _ _ _ l _ _ _ w _ _ _ (sw_none HR.out HSM.out HF.out) (HF.out.symm) ((by rw [(fails_of HF.out).1]; rfl)) ?_
                intro y16 y79 y80 y81 y82 y83 y84 y85 y86 y87 y88 y89 y90 y91 y92 y93 y94 y95 y96 y97 y98 y99 y100 y101 y102 y103 y104 y105 y106 y107 y108 y109 y110 y111 y112 y113 y114 y115 y116 y117 y118 y119 y120 y121 y122 y123 y124 y125 y126 y127 y128 y129 y130 y131 y132 y133 y134 y135 y136 y137 y138 y139 y140 W2 hR2
                refine HKK _ _ ?_
                refine wp_code (C := rdChk) (by kernel_rfl) ?_
                refine chk_rd _ _ _ _ _ _ _ _ _ _ _ _ _ _ _ _ _ _ _ _ _ _ _ _ _ _ _ _ _ _ _ _ _ _ _ _ _ _ _ _ _ _ _ _ _ _ _ _ _ _ _ _ _ _ _ _ _ _ _ _ _ _ _ _ _ _ _ _ _ _ _ _ _ _ _ _ _ _ _ _ _ _ _ _ _ _ _ _ _ _ _ _ _ _ _ _ _ _ _ _ _ _ _ _ _ _ _ _ _ _ _ _ _ _ _ _ _ _ _ _ _ _ _ _ _ _ _ _ _ _ _ _ _ _ _ _ _ _ _ _ _ _ _ _ _ _ _ _ _ _ _ _ _ _ _ _ _ _ (rest l false 1) (fails l false 1) _ _ w _ _ hR2 (HF.out.symm) ((by rw [(fails_of HF.out).2]; rfl)) ?_
                intro z141 z142 z143 z144 z145 z146 z147 z148 z149 z150 z151 z152 z153 z154 z155 W3 hR3
                have HR3 := Go.Lib.hid hR3
                clear hR2 hR3
                go_wp2
                go_roundw
                case rel => exact ⟨i + 1, _, _, _, rest l false 1, true, by omega, by go_num, rfl, rfl, (by rw [(fails_of HF.out).2]; rfl), Go.Lib.hid (rest_small HSM.out), by have h9 := HR3.out; rw [show fails l false 1 = true from (HF.out.symm).symm] at h9; exact h9⟩
                case measure => simp [intOf]; omega
              · have y1 : decide ((l.length : Int) < 1) = false := decide_eq_false (by omega)
                have HKL := Go.Lib.hid (show 1 ≤ l.length by omega)
                go_upto_region 15 with fail
                go_quiet (fail)
                go_upto_block 2 with fail
                rename_i KK HKK
                try rw [hm6]
                refine wp_code (C := rdSw) (by kernel_rfl) ?_
                refine sw_u8 _ _ _ _ _ _ _ _ _ _ _ _ _ _ _ _ _ _ _ _ _ _ _ _ _ _ _ _ _ _ _ _ _ _ _ _ _ _ _ _ _ _ _ _ _ _ _ _ _ _ _ _ _ _ _ _ _ _ _ _ _ _ _ _ _ _ _ _ _ _ _ _ _ _ _ _ _ _ _ _ _ _ _ _ _ _ _ _ _ _ _ _ _ _ _ _ _ _ _ _ _ _ _ _ _ _ _ _ _ _ _ _ _ _ _ _ _ _ _ _ _ _ _ _ _ _ _ _ _ _ _ _ _ _ _ _ _ _ _ _ _ _ _ _ _ _ _ _ _ _ _ _ _ _ _ _ l _ _ _ w _ _ _ (show Sw w n P F l false 1 _ _ _ from sw_some (k := 1) HR.out HSM.out HKL.out (by simp [Addr.add])) ((fails_ok (k := 1) HKL.out).symm) (got_length (k := 1) HKL.out) ?_
                intro y16 y79 y80 y81 y82 y83 y84 y85 y86 y87 y88 y89 y90 y91 y92 y93 y94 y95 y96 y97 y98 y99 y100 y101 y102 y103 y104 y105 y106 y107 y108 y109 y110 y111 y112 y113 y114 y115 y116 y117 y118 y119 y120 y121 y122 y123 y124 y125 y126 y127 y128 y129 y130 y131 y132 y133 y134 y135 y136 y137 y138 y139 y140 W2 hR2
                refine HKK _ _ ?_
                refine wp_code (C := rdChk) (by kernel_rfl) ?_
                refine chk_rd _ _ _ _ _ _ _ _ _ _ _ _ _ _ _ _ _ _ _ _ _ _ _ _ _ _ _ _ _ _ _ _ _ _ _ _ _ _ _ _ _ _ _ _ _ _ _ _ _ _ _ _ _ _ _ _ _ _ _ _ _ _ _ _ _ _ _ _ _ _ _ _ _ _ _ _ _ _ _ _ _ _ _ _ _ _ _ _ _ _ _ _ _ _ _ _ _ _ _ _ _ _ _ _ _ _ _ _ _ _ _ _ _ _ _ _ _ _ _ _ _ _ _ _ _ _ _ _ _ _ _ _ _ _ _ _ _ _ _ _ _ _ _ _ _ _ _ _ _ _ _ _ _ _ _ _ _ _ (rest l false 1) (fails l false 1) _ _ w _ _ hR2 ((fails_ok (k := 1) HKL.out).symm) ((rest_length (k := 1) HKL.out)) ?_
                intro z141 z142 z143 z144 z145 z146 z147 z148 z149 z150 z151 z152 z153 z154 z155 W3 hR3
                have HR3 := Go.Lib.hid hR3
                clear hR2 hR3
                go_wp2
                go_roundw
                case rel => exact ⟨i + 1, _, _, _, rest l false 1, false, by omega, by go_num, rfl, rfl, (rest_length (k := 1) HKL.out), Go.Lib.hid (rest_small HSM.out), by have h9 := HR3.out; rw [show fails l false 1 = false from ((fails_ok (k := 1) HKL.out).symm).symm] at h9; exact h9⟩
                case measure => simp [intOf]; omega
          · have hm6 : (kk : Int) % 6 = 1 := by omega
            clear hr
            cases bd with
            | true =>
              have HF := Go.Lib.hid (show fails l true 2 = true from fails_bad l 2)
              go_upto_block 2 with fail
              rename_i KK HKK
              try rw [hm6]
              refine wp_code (C := rdSw) (by kernel_rfl) ?_
              refine sw_u16 _ _ _ _ _ _ _ _ _ _ _ _ _ _ _ _ _ _ _ _ _ _ _ _ _ _ _ _ _ _ _ _ _ _ _ _ _ _ _ _ _ _ _ _ _ _ _ _ _ _ _ _ _ _ _ _ _ _ _ _ _ _ _ _ _ _ _ _ _ _ _ _ _ _ _ _ _ _ _ _ _ _ _ _ _ _ _ _ _ _ _ _ _ _ _ _ _ _ _ _ _ _ _ _ _ _ _ _ _ _ _ _ _ _ _ _ _ _ _ _ _ _ _ _ _ _ _ _ _ _ _ _ _ _ _ _ _ _ _ _ _ _ _ _ _ _ _ _ _ _ _ _ _ _ _ _ l _ _ _ w _ _ _ (sw_none HR.out HSM.out HF.out) (HF.out.symm) ((by rw [(fails_of HF.out).1]; rfl)) ?_
              intro y16 y79 y80 y81 y82 y83 y84 y85 y86 y87 y88 y89 y90 y91 y92 y93 y94 y95 y96 y97 y98 y99 y100 y101 y102 y103 y104 y105 y106 y107 y108 y109 y110 y111 y112 y113 y114 y115 y116 y117 y118 y119 y120 y121 y122 y123 y124 y125 y126 y127 y128 y129 y130 y131 y132 y133 y134 y135 y136 y137 y138 y139 y140 W2 hR2
              refine HKK _ _ ?_
              refine wp_code (C := rdChk) (by kernel_rfl) ?_
              refine chk_rd _ _ _ _ _ _ _ _ _ _ _ _ _ _ _ _ _ _ _ _ _ _ _ _ _ _ _ _ _ _ _ _ _ _ _ _ _ _ _ _ _ _ _ _ _ _ _ _ _ _ _ _ _ _ _ _ _ _ _ _ _ _ _ _ _ _ _ _ _ _ _ _ _ _ _ _ _ _ _ _ _ _ _ _ _ _ _ _ _ _ _ _ _ _ _ _ _ _ _ _ _ _ _ _ _ _ _ _ _ _ _ _ _ _ _ _ _ _ _ _ _ _ _ _ _ _ _ _ _ _ _ _ _ _ _ _ _ _ _ _ _ _ _ _ _ _ _ _ _ _ _ _ _ _ _ _ _ _ (rest l true 2) (fails l true 2) _ _ w _ _ hR2 (HF.out.symm) ((by rw [(fails_of HF.out).2]; rfl)) ?_
              intro z141 z142 z143 z144 z145 z146 z147 z148 z149 z150 z151 z152 z153 z154 z155 W3 hR3
              have HR3 := Go.Lib.hid hR3
              clear hR2 hR3
              go_wp2
              go_roundw
              case rel => exact ⟨i + 1, _, _, _, rest l true 2, true, by omega, by go_num, rfl, rfl, (by rw [(fails_of HF.out).2]; rfl), Go.Lib.hid (rest_small HSM.out), by have h9 := HR3.out; rw [show fails l true 2 = true from (HF.out.symm).symm] at h9; exact h9⟩
              case measure => simp [intOf]; omega
            | false =>
              by_cases hx : l.length < 2
              · have y1 : (l.length : Int) < 2 := by omega
                have HF := Go.Lib.hid (show fails l false 2 = true from fails_long y1)
                go_upto_block 2 with fail
                rename_i KK HKK
                try rw [hm6]
                refine wp_code (C := rdSw) (by kernel_rfl) ?_
                refine sw_u16 _ _ _ _ _ _ _ _ _ _ _ _ _ _ _ _ _ _ _ _ _ _ _ _ _ _ _ _ _ _ _ _ _ _ _ _ _ _ _ _ _ _ _ _ _ _ _ _ _ _ _ _ _ _ _ _ _ _ _ _ _ _ _ _ _ _ _ _ _ _ _ _ _ _ _ _ _ _ _ _ _ _ _ _ _ _ _ _ _ _ _ _ _ _ _ _ _ _ _ _ _ _ _ _ _ _ _ _ _ _ _ _ _ _ _ _ _ _ _ _ _ _ _ _ _ _ _ _ _ _ _ _ _ _ _ _ _ _ _ _ _ _ _ _ _ _ _ _ _ _ _ _ _ _ _ _ l _ _ _ w _ _ _ (sw_none HR.out HSM.out HF.out) (HF.out.symm) ((by rw [(fails_of HF.out).1]; rfl)) ?_
                intro y16 y79 y80 y81 y82 y83 y84 y85 y86 y87 y88 y89 y90 y91 y92 y93 y94 y95 y96 y97 y98 y99 y100 y101 y102 y103 y104 y105 y106 y107 y108 y109 y110 y111 y112 y113 y114 y115 y116 y117 y118 y119 y120 y121 y122 y123 y124 y125 y126 y127 y128 y129 y130 y131 y132 y133 y134 y135 y136 y137 y138 y139 y140 W2 hR2
                refine HKK _ _ ?_
                refine wp_code (C := rdChk) (by kernel_rfl) ?_
                refine chk_rd _ _ _ _ _ _ _ _ _ _ _ _ _ _ _ _ _ _ _ _ _ _ _ _ _ _ _ _ _ _ _ _ _ _ _ _ _ _ _ _ _ _ _ _ _ _ _ _ _ _ _ _ _ _ _ _ _ _ _ _ _ _ _ _ _ _ _ _ _ _ _ _ _ _ _ _ _ _ _ _ _ _ _ _ _ _ _ _ _ _ _ _ _ _ _ _ _ _ _ _ _ _ _ _ _ _ _ _ _ _ _ _ _ _ _ _ _ _ _ _ _ _ _ _ _ _ _ _ _ _ _ _ _ _ _ _ _ _ _ _ _ _ _ _ _ _ _ _ _ _ _ _ _ _ _ _ _ _ (rest l false 2) (fails l false 2) _ _ w _ _ hR2 (HF.out.symm) ((by rw [(fails_of HF.out).2]; rfl)) ?_
                intro z141 z142 z143 z144 z145 z146 z147 z148 z149 z150 z151 z152 z153 z154 z155 W3 hR3
                have HR3 := Go.Lib.hid hR3
                clear hR2 hR3
                go_wp2
                go_roundw
                case rel => exact ⟨i + 1, _, _, _, rest l false 2, true, by omega, by go_num, rfl, rfl, (by rw [(fails_of HF.out).2]; rfl), Go.Lib.hid (rest_small HSM.out), by have h9 := HR3.out; rw [show fails l false 2 = true from (HF.out.symm).symm] at h9; exact h9⟩
                case measure => simp [intOf]; omega
              · have y1 : decide ((l.length : Int) < 2) = false := decide_eq_false (by omega)
                have HKL := Go.Lib.hid (show 2 ≤ l.length by omega)
                go_upto_region 15 with fail
                go_quiet (fail)
                go_upto_block 2 with fail
                rename_i KK HKK
                try rw [hm6]
                refine wp_code (C := rdSw) (by kernel_rfl) ?_
                refine sw_u16 _ _ _ _ _ _ _ _ _ _ _ _ _ _ _ _ _ _ _ _ _ _ _ _ _ _ _ _ _ _ _ _ _ _ _ _ _ _ _ _ _ _ _ _ _ _ _ _ _ _ _ _ _ _ _ _ _ _ _ _ _ _ _ _ _ _ _ _ _ _ _ _ _ _ _ _ _ _ _ _ _ _ _ _ _ _ _ _ _ _ _ _ _ _ _ _ _ _ _ _ _ _ _ _ _ _ _ _ _ _ _ _ _ _ _ _ _ _ _ _ _ _ _ _ _ _ _ _ _ _ _ _ _ _ _ _ _ _ _ _ _ _ _ _ _ _ _ _ _ _ _ _ _ _ _ _ l _ _ _ w _ _ _ (show Sw w n P F l false 2 _ _ _ from sw_some (k := 2) HR.out HSM.out HKL.out (by simp [Addr.add])) ((fails_ok (k := 2) HKL.out).symm) (got_length (k := 2) HKL.out) ?_
                intro y16 y79 y80 y81 y82 y83 y84 y85 y86 y87 y88 y89 y90 y91 y92 y93 y94 y95 y96 y97 y98 y99 y100 y101 y102 y103 y104 y105 y106 y107 y108 y109 y110 y111 y112 y113 y114 y115 y116 y117 y118 y119 y120 y121 y122 y123 y124 y125 y126 y127 y128 y129 y130 y131 y132 y133 y134 y135 y136 y137 y138 y139 y140 W2 hR2
                refine HKK _ _ ?_
                refine wp_code (C := rdChk) (by kernel_rfl) ?_
                refine chk_rd _ _ _ _ _ _ _ _ _ _ _ _ _ _ _ _ _ _ _ _ _ _ _ _ _ _ _ _ _ _ _ _ _ _ _ _ _ _ _ _ _ _ _ _ _ _ _ _ _ _ _ _ _ _ _ _ _ _ _ _ _ _ _ _ _ _ _ _ _ _ _ _ _ _ _ _ _ _ _ _ _ _ _ _ _ _ _ _ _ _ _ _ _ _ _ _ _ _ _ _ _ _ _ _ _ _ _ _ _ _ _ _ _ _ _ _ _ _ _ _ _ _ _ _ _ _ _ _ _ _ _ _ _ _ _ _ _ _ _ _ _ _ _ _ _ _ _ _ _ _ _ _ _ _ _ _ _ _ (rest l false 2) (fails l false 2) _ _ w _ _ hR2 ((fails_ok (k := 2) HKL.out).symm) ((rest_length (k := 2) HKL.out)) ?_
                intro z141 z142 z143 z144 z145 z146 z147 z148 z149 z150 z151 z152 z153 z154 z155 W3 hR3
                have HR3 := Go.Lib.hid hR3
                clear hR2 hR3
                go_wp2
                go_roundw
                case rel => exact ⟨i + 1, _, _, _, rest l false 2, false, by omega, by go_num, rfl, rfl, (rest_length (k := 2) HKL.out), Go.Lib.hid (rest_small HSM.out), by have h9 := HR3.out; rw [show fails l false 2 = false from ((fails_ok (k := 2) HKL.out).symm).symm] at h9; exact h9⟩
                case measure => simp [intOf]; omega
          · have hm6 : (kk : Int) % 6 = 2 := by omega
            clear hr
            cases bd with
            | true =>
              have HF := Go.Lib.hid (show fails l true 4 = true from fails_bad l 4)
              go_upto_block 2 with fail
              rename_i KK HKK
              try rw [hm6]
              refine wp_code (C := rdSw) (by kernel_rfl) ?_
              refine sw_u32 _ _ _ _ _ _ _ _ _ _ _ _ _ _ _ _ _ _ _ _ _ _ _ _ _ _ _ _ _ _ _ _ _ _ _ _ _ _ _ _ _ _ _ _ _ _ _ _ _ _ _ _ _ _ _ _ _ _ _ _ _ _ _ _ _ _ _ _ _ _ _ _ _ _ _ _ _ _ _ _ _ _ _ _ _ _ _ _ _ _ _ _ _ _ _ _ _ _ _ _ _ _ _ _ _ _ _ _ _ _ _ _ _ _ _ _ _ _ _ _ _ _ _ _ _ _ _ _ _ _ _ _ _ _ _ _ _ _ _ _ _ _ _ _ _ _ _ _ _ _ _ _ _ _ _ _ l _ _ _ w _ _ _ (sw_none HR.out HSM.out HF.out) (HF.out.symm) ((by rw [(fails_of HF.out).1]; rfl)) ?_
              intro y16 y79 y80 y81 y82 y83 y84 y85 y86 y87 y88 y89 y90 y91 y92 y93 y94 y95 y96 y97 y98 y99 y100 y101 y102 y103 y104 y105 y106 y107 y108 y109 y110 y111 y112 y113 y114 y115 y116 y117 y118 y119 y120 y121 y122 y123 y124 y125 y126 y127 y128 y129 y130 y131 y132 y133 y134 y135 y136 y137 y138 y139 y140 W2 hR2
              refine HKK _ _ ?_
              refine wp_code (C := rdChk) (by kernel_rfl) ?_
              refine chk_rd _ _ _ _ _ _ _ _ _ _ _ _ _ _ _ _ _ _ _ _ _ _ _ _ _ _ _ _ _ _ _ _ _ _ _ _ _ _ _ _ _ _ _ _ _ _ _ _ _ _ _ _ _ _ _ _ _ _ _ _ _ _ _ _ _ _ _ _ _ _ _ _ _ _ _ _ _ _ _ _ _ _ _ _ _ _ _ _ _ _ _ _ _ _ _ _ _ _ _ _ _ _ _ _ _ _ _ _ _ _ _ _ _ _ _ _ _ _ _ _ _ _ _ _ _ _ _ _ _ _ _ _ _ _ _ _ _ _ _ _ _ _ _ _ _ _ _ _ _ _ _ _ _ _ _ _ _ _ (rest l true 4) (fails l true 4) _ _ w _ _ hR2 (HF.out.symm) ((by rw [(fails_of HF.out).2]; rfl)) ?_
              intro z141 z142 z143 z144 z145 z146 z147 z148 z149 z150 z151 z152 z153 z154 z155 W3 hR3
              have HR3 := Go.Lib.hid hR3
              clear hR2 hR3
              go_wp2
              go_roundw
              case rel => exact ⟨i + 1, _, _, _, rest l true 4, true, by omega, by go_num, rfl, rfl, (by rw [(fails_of HF.out).2]; rfl), Go.Lib.hid (rest_small HSM.out), by have h9 := HR3.out; rw [show fails l true 4 = true from (HF.out.symm).symm] at h9; exact h9⟩
              case measure => simp [intOf]; omega
            | false =>
              by_cases hx : l.length < 4
              · have y1 : (l.length : Int) < 4 := by omega
                have HF := Go.Lib.hid (show fails l false 4 = true from fails_long y1)
                go_upto_block 2 with fail
                rename_i KK HKK
                try rw [hm6]
                refine wp_code (C := rdSw) (by kernel_rfl) ?_
                refine sw_u32 _ _ _ _ _ _ _ _ _ _ _ _ _ _ _ _ _ _ _ _ _ _ _ _ _ _ _ _ _ _ _ _ _ _ _ _ _ _ _ _ _ _ _ _ _ _ _ _ _ _ _ _ _ _ _ _ _ _ _ _ _ _ _ _ _ _ _ _ _ _ _ _ _ _ _ _ _ _ _ _ _ _ _ _ _ _ _ _ _ _ _ _ _ _ _ _ _ _ _ _ _ _ _ _ _ _ _ _ _ _ _ _ _ _ _ _ _ _ _ _ _ _ _ _ _ _ _ _ _ _ _ _ _ _ _ _ _ _ _ _ _ _ _ _ _ _ _ _ _ _ _ _ _ _ _ _ l _ _ _ w _ _ _ (sw_none HR.out HSM.out HF.out) (HF.out.symm) ((by rw [(fails_of HF.out).1]; rfl)) ?_
                intro y16 y79 y80 y81 y82 y83 y84 y85 y86 y87 y88 y89 y90 y91 y92 y93 y94 y95 y96 y97 y98 y99 y100 y101 y102 y103 y104 y105 y106 y107 y108 y109 y110 y111 y112 y113 y114 y115 y116 y117 y118 y119 y120 y121 y122 y123 y124 y125 y126 y127 y128 y129 y130 y131 y132 y133 y134 y135 y136 y137 y138 y139 y140 W2 hR2
                refine HKK _ _ ?_
                refine wp_code (C := rdChk) (by kernel_rfl) ?_
                refine chk_rd _ _ _ _ _ _ _ _ _ _ _ _ _ _ _ _ _ _ _ _ _ _ _ _ _ _ _ _ _ _ _ _ _ _ _ _ _ _ _ _ _ _ _ _ _ _ _ _ _ _ _ _ _ _ _ _ _ _ _ _ _ _ _ _ _ _ _ _ _ _ _ _ _ _ _ _ _ _ _ _ _ _ _ _ _ _ _ _ _ _ _ _ _ _ _ _ _ _ _ _ _ _ _ _ _ _ _ _ _ _ _ _ _ _ _ _ _ _ _ _ _ _ _ _ _ _ _ _ _ _ _ _ _ _ _ _ _ _ _ _ _ _ _ _ _ _ _ _ _ _ _ _ _ _ _ _ _ _ (rest l false 4) (fails l false 4) _ _ w _ _ hR2 (HF.out.symm) ((by rw [(fails_of HF.out).2]; rfl)) ?_
                intro z141 z142 z143 z144 z145 z146 z147 z148 z149 z150 z151 z152 z153 z154 z155 W3 hR3
                have HR3 := Go.Lib.hid hR3
                clear hR2 hR3
                go_wp2
                go_roundw
                case rel => exact ⟨i + 1, _, _, _, rest l false 4, true, by omega, by go_num, rfl, rfl, (by rw [(fails_of HF.out).2]; rfl), Go.Lib.hid (rest_small HSM.out), by have h9 := HR3.out; rw [show fails l false 4 = true from (HF.out.symm).symm] at h9; exact h9⟩
                case measure => simp [intOf]; omega
              · have y1 : decide ((l.length : Int) < 4) = false := decide_eq_false (by omega)
                have HKL := Go.Lib.hid (show 4 ≤ l.length by omega)
                go_upto_region 15 with fail
                go_quiet (fail)
                go_upto_block 2 with fail
                rename_i KK HKK
                try rw [hm6]
                refine wp_code (C := rdSw) (by kernel_rfl) ?_
                refine sw_u32 _ _ _ _ _ _ _ _ _ _ _ _ _ _ _ _ _ _ _ _ _ _ _ _ _ _ _ _ _ _ _ _ _ _ _ _ _ _ _ _ _ _ _ _ _ _ _ _ _ _ _ _ _ _ _ _ _ _ _ _ _ _ _ _ _ _ _ _ _ _ _ _ _ _ _ _ _ _ _ _ _ _ _ _ _ _ _ _ _ _ _ _ _ _ _ _ _ _ _ _ _ _ _ _ _ _ _ _ _ _ _ _ _ _ _ _ _ _ _ _ _ _ _ _ _ _ _ _ _ _ _ _ _ _ _ _ _ _ _ _ _ _ _ _ _ _ _ _ _ _ _ _ _ _ _ _ l _ _ _ w _ _ _ (show Sw w n P F l false 4 _ _ _ from sw_some (k := 4) HR.out HSM.out HKL.out (by simp [Addr.add])) ((fails_ok (k := 4) HKL.out).symm) (got_length (k := 4) HKL.out) ?_
                intro y16 y79 y80 y81 y82 y83 y84 y85 y86 y87 y88 y89 y90 y91 y92 y93 y94 y95 y96 y97 y98 y99 y100 y101 y102 y103 y104 y105 y106 y107 y108 y109 y110 y111 y112 y113 y114 y115 y116 y117 y118 y119 y120 y121 y122 y123 y124 y125 y126 y127 y128 y129 y130 y131 y132 y133 y134 y135 y136 y137 y138 y139 y140 W2 hR2
                refine HKK _ _ ?_
                refine wp_code (C := rdChk) (by kernel_rfl) ?_
                refine chk_rd _ _ _ _ _ _ _ _ _ _ _ _ _ _ _ _ _ _ _ _ _ _ _ _ _ _ _ _ _ _ _ _ _ _ _ _ _ _ _ _ _ _ _ _ _ _ _ _ _ _ _ _ _ _ _ _ _ _ _ _ _ _ _ _ _ _ _ _ _ _ _ _ _ _ _ _ _ _ _ _ _ _ _ _ _ _ _ _ _ _ _ _ _ _ _ _ _ _ _ _ _ _ _ _ _ _ _ _ _ _ _ _ _ _ _ _ _ _ _ _ _ _ _ _ _ _ _ _ _ _ _ _ _ _ _ _ _ _ _ _ _ _ _ _ _ _ _ _ _ _ _ _ _ _ _ _ _ _ (rest l false 4) (fails l false 4) _ _ w _ _ hR2 ((fails_ok (k := 4) HKL.out).symm) ((rest_length (k := 4) HKL.out)) ?_
                intro z141 z142 z143 z144 z145 z146 z147 z148 z149 z150 z151 z152 z153 z154 z155 W3 hR3
                have HR3 := Go.Lib.hid hR3
                clear hR2 hR3
                go_wp2
                go_roundw
                case rel => exact ⟨i + 1, _, _, _, rest l false 4, false, by omega, by go_num, rfl, rfl, (rest_length (k := 4) HKL.out), Go.Lib.hid (rest_small HSM.out), by have h9 := HR3.out; rw [show fails l false 4 = false from ((fails_ok (k := 4) HKL.out).symm).symm] at h9; exact h9⟩
                case measure => simp [intOf]; omega
          · have hm6 : (kk : Int) % 6 = 3 := by omega
            clear hr
            cases bd with
            | true =>
              have HF := Go.Lib.hid (show fails l true sz = true from fails_bad l sz)
              go_upto_block 2 with fail
              rename_i KK HKK
              try rw [hm6]
              refine wp_code (C := rdSw) (by kernel_rfl) ?_
              refine sw_take _ _ _ _ _ _ _ _ _ _ _ _ _ _ _ _ _ _ _ _ _ _ _ _ _ _ _ _ _ _ _ _ _ _ _ _ _ _ _ _ _ _ _ _ _ _ _ _ _ _ _ _ _ _ _ _ _ _ _ _ _ _ _ _ _ _ _ _ _ _ _ _ _ _ _ _ _ _ _ _ _ _ _ _ _ _ _ _ _ _ _ _ _ _ _ _ _ _ _ _ _ _ _ _ _ _ _ _ _ _ _ _ _ _ _ _ _ _ _ _ _ _ _ _ _ _ _ _ _ _ _ _ _ _ _ _ _ _ _ _ _ _ _ _ _ _ _ _ _ _ _ _ _ _ _ _ _ l _ _ _ w _ _ _ (sw_none HR.out HSM.out HF.out) HSZW.out (HF.out.symm) ((by rw [(fails_of HF.out).1]; rfl)) ?_
              intro y16 y79 y80 y81 y82 y83 y84 y85 y86 y87 y88 y89 y90 y91 y92 y93 y94 y95 y96 y97 y98 y99 y100 y101 y102 y103 y104 y105 y106 y107 y108 y109 y110 y111 y112 y113 y114 y115 y116 y117 y118 y119 y120 y121 y122 y123 y124 y125 y126 y127 y128 y129 y130 y131 y132 y133 y134 y135 y136 y137 y138 y139 y140 W2 hR2
              refine HKK _ _ ?_
              refine wp_code (C := rdChk) (by kernel_rfl) ?_
              refine chk_rd _ _ _ _ _ _ _ _ _ _ _ _ _ _ _ _ _ _ _ _ _ _ _ _ _ _ _ _ _ _ _ _ _ _ _ _ _ _ _ _ _ _ _ _ _ _ _ _ _ _ _ _ _ _ _ _ _ _ _ _ _ _ _ _ _ _ _ _ _ _ _ _ _ _ _ _ _ _ _ _ _ _ _ _ _ _ _ _ _ _ _ _ _ _ _ _ _ _ _ _ _ _ _ _ _ _ _ _ _ _ _ _ _ _ _ _ _ _ _ _ _ _ _ _ _ _ _ _ _ _ _ _ _ _ _ _ _ _ _ _ _ _ _ _ _ _ _ _ _ _ _ _ _ _ _ _ _ _ (rest l true sz) (fails l true sz) _ _ w _ _ hR2 (HF.out.symm) ((by rw [(fails_of HF.out).2]; rfl)) ?_
              intro z141 z142 z143 z144 z145 z146 z147 z148 z149 z150 z151 z152 z153 z154 z155 W3 hR3
              have HR3 := Go.Lib.hid hR3
              clear hR2 hR3
              go_wp2
              go_roundw
              case rel => exact ⟨i + 1, _, _, _, rest l true sz, true, by omega, by go_num, rfl, rfl, (by rw [(fails_of HF.out).2]; rfl), Go.Lib.hid (rest_small HSM.out), by have h9 := HR3.out; rw [show fails l true sz = true from (HF.out.symm).symm] at h9; exact h9⟩
              case measure => simp [intOf]; omega
            | false =>
              by_cases hneg : sz < 0
              · have y0 : decide (sz < 0) = true := decide_eq_true hneg
                have HF := Go.Lib.hid (show fails l false sz = true from fails_low l hneg)
                go_upto_block 2 with fail
                rename_i KK HKK
                try rw [hm6]
                refine wp_code (C := rdSw) (by kernel_rfl) ?_
                refine sw_take _ _ _ _ _ _ _ _ _ _ _ _ _ _ _ _ _ _ _ _ _ _ _ _ _ _ _ _ _ _ _ _ _ _ _ _ _ _ _ _ _ _ _ _ _ _ _ _ _ _ _ _ _ _ _ _ _ _ _ _ _ _ _ _ _ _ _ _ _ _ _ _ _ _ _ _ _ _ _ _ _ _ _ _ _ _ _ _ _ _ _ _ _ _ _ _ _ _ _ _ _ _ _ _ _ _ _ _ _ _ _ _ _ _ _ _ _ _ _ _ _ _ _ _ _ _ _ _ _ _ _ _ _ _ _ _ _ _ _ _ _ _ _ _ _ _ _ _ _ _ _ _ _ _ _ _ _ l _ _ _ w _ _ _ (sw_none HR.out HSM.out HF.out) HSZW.out (HF.out.symm) ((by rw [(fails_of HF.out).1]; rfl)) ?_
                intro y16 y79 y80 y81 y82 y83 y84 y85 y86 y87 y88 y89 y90 y91 y92 y93 y94 y95 y96 y97 y98 y99 y100 y101 y102 y103 y104 y105 y106 y107 y108 y109 y110 y111 y112 y113 y114 y115 y116 y117 y118 y119 y120 y121 y122 y123 y124 y125 y126 y127 y128 y129 y130 y131 y132 y133 y134 y135 y136 y137 y138 y139 y140 W2 hR2
                refine HKK _ _ ?_
                refine wp_code (C := rdChk) (by kernel_rfl) ?_
                refine chk_rd _ _ _ _ _ _ _ _ _ _ _ _ _ _ _ _ _ _ _ _ _ _ _ _ _ _ _ _ _ _ _ _ _ _ _ _ _ _ _ _ _ _ _ _ _ _ _ _ _ _ _ _ _ _ _ _ _ _ _ _ _ _ _ _ _ _ _ _ _ _ _ _ _ _ _ _ _ _ _ _ _ _ _ _ _ _ _ _ _ _ _ _ _ _ _ _ _ _ _ _ _ _ _ _ _ _ _ _ _ _ _ _ _ _ _ _ _ _ _ _ _ _ _ _ _ _ _ _ _ _ _ _ _ _ _ _ _ _ _ _ _ _ _ _ _ _ _ _ _ _ _ _ _ _ _ _ _ _ (rest l false sz) (fails l false sz) _ _ w _ _ hR2 (HF.out.symm) ((by rw [(fails_of HF.out).2]; rfl)) ?_
                intro z141 z142 z143 z144 z145 z146 z147 z148 z149 z150 z151 z152 z153 z154 z155 W3 hR3
                have HR3 := Go.Lib.hid hR3
                clear hR2 hR3
                go_wp2
                go_roundw
                case rel => exact ⟨i + 1, _, _, _, rest l false sz, true, by omega, by go_num, rfl, rfl, (by rw [(fails_of HF.out).2]; rfl), Go.Lib.hid (rest_small HSM.out), by have h9 := HR3.out; rw [show fails l false sz = true from (HF.out.symm).symm] at h9; exact h9⟩
                case measure => simp [intOf]; omega
              · have y0 : decide (sz < 0) = false := decide_eq_false hneg
                by_cases hx : (l.length : Int) < sz
                · have y1 : decide ((l.length : Int) < sz) = true := decide_eq_true hx
                  have HF := Go.Lib.hid (show fails l false sz = true from fails_long hx)
                  go_upto_block 2 with fail
                  rename_i KK HKK
                  try rw [hm6]
                  refine wp_code (C := rdSw) (by kernel_rfl) ?_
                  refine sw_take _ _ _ _ _ _ _ _ _ _ _ _ _ _ _ _ _ _ _ _ _ _ _ _ _ _ _ _ _ _ _ _ _ _ _ _ _ _ _ _ _ _ _ _ _ _ _ _ _ _ _ _ _ _ _ _ _ _ _ _ _ _ _ _ _ _ _ _ _ _ _ _ _ _ _ _ _ _ _ _ _ _ _ _ _ _ _ _ _ _ _ _ _ _ _ _ _ _ _ _ _ _ _ _ _ _ _ _ _ _ _ _ _ _ _ _ _ _ _ _ _ _ _ _ _ _ _ _ _ _ _ _ _ _ _ _ _ _ _ _ _ _ _ _ _ _ _ _ _ _ _ _ _ _ _ _ _ l _ _ _ w _ _ _ (sw_none HR.out HSM.out HF.out) HSZW.out (HF.out.symm) ((by rw [(fails_of HF.out).1]; rfl)) ?_
                  intro y16 y79 y80 y81 y82 y83 y84 y85 y86 y87 y88 y89 y90 y91 y92 y93 y94 y95 y96 y97 y98 y99 y100 y101 y102 y103 y104 y105 y106 y107 y108 y109 y110 y111 y112 y113 y114 y115 y116 y117 y118 y119 y120 y121 y122 y123 y124 y125 y126 y127 y128 y129 y130 y131 y132 y133 y134 y135 y136 y137 y138 y139 y140 W2 hR2
                  refine HKK _ _ ?_
                  refine wp_code (C := rdChk) (by kernel_rfl) ?_
                  refine chk_rd _ _ _ _ _ _ _ _ _ _ _ _ _ _ _ _ _ _ _ _ _ _ _ _ _ _ _ _ _ _ _ _ _ _ _ _ _ _ _ _ _ _ _ _ _ _ _ _ _ _ _ _ _ _ _ _ _ _ _ _ _ _ _ _ _ _ _ _ _ _ _ _ _ _ _ _ _ _ _ _ _ _ _ _ _ _ _ _ _ _ _ _ _ _ _ _ _ _ _ _ _ _ _ _ _ _ _ _ _ _ _ _ _ _ _ _ _ _ _ _ _ _ _ _ _ _ _ _ _ _ _ _ _ _ _ _ _ _ _ _ _ _ _ _ _ _ _ _ _ _ _ _ _ _ _ _ _ _ (rest l false sz) (fails l false sz) _ _ w _ _ hR2 (HF.out.symm) ((by rw [(fails_of HF.out).2]; rfl)) ?_
                  intro z141 z142 z143 z144 z145 z146 z147 z148 z149 z150 z151 z152 z153 z154 z155 W3 hR3
                  have HR3 := Go.Lib.hid hR3
                  clear hR2 hR3
                  go_wp2
                  go_roundw
                  case rel => exact ⟨i + 1, _, _, _, rest l false sz, true, by omega, by go_num, rfl, rfl, (by rw [(fails_of HF.out).2]; rfl), Go.Lib.hid (rest_small HSM.out), by have h9 := HR3.out; rw [show fails l false sz = true from (HF.out.symm).symm] at h9; exact h9⟩
                  case measure => simp [intOf]; omega
                · have y1 : decide ((l.length : Int) < sz) = false := decide_eq_false hx
                  obtain ⟨k, rfl⟩ := Int.eq_ofNat_of_zero_le (show 0 ≤ sz by omega)
                  have HKL := Go.Lib.hid (show k ≤ l.length by omega)
                  go_upto_region 15 with fail
                  go_quiet (fail)
                  go_upto_block 2 with fail
                  rename_i KK HKK
                  try rw [hm6]
                  refine wp_code (C := rdSw) (by kernel_rfl) ?_
                  refine sw_take _ _ _ _ _ _ _ _ _ _ _ _ _ _ _ _ _ _ _ _ _ _ _ _ _ _ _ _ _ _ _ _ _ _ _ _ _ _ _ _ _ _ _ _ _ _ _ _ _ _ _ _ _ _ _ _ _ _ _ _ _ _ _ _ _ _ _ _ _ _ _ _ _ _ _ _ _ _ _ _ _ _ _ _ _ _ _ _ _ _ _ _ _ _ _ _ _ _ _ _ _ _ _ _ _ _ _ _ _ _ _ _ _ _ _ _ _ _ _ _ _ _ _ _ _ _ _ _ _ _ _ _ _ _ _ _ _ _ _ _ _ _ _ _ _ _ _ _ _ _ _ _ _ _ _ _ _ l _ _ _ w _ _ _ (show Sw w n P F l false (k : Int) _ _ _ from sw_some (k := k) HR.out HSM.out HKL.out (by simp [Addr.add])) HSZW.out ((fails_ok (k := k) HKL.out).symm) (got_length (k := k) HKL.out) ?_
                  intro y16 y79 y80 y81 y82 y83 y84 y85 y86 y87 y88 y89 y90 y91 y92 y93 y94 y95 y96 y97 y98 y99 y100 y101 y102 y103 y104 y105 y106 y107 y108 y109 y110 y111 y112 y113 y114 y115 y116 y117 y118 y119 y120 y121 y122 y123 y124 y125 y126 y127 y128 y129 y130 y131 y132 y133 y134 y135 y136 y137 y138 y139 y140 W2 hR2
                  refine HKK _ _ ?_
                  refine wp_code (C := rdChk) (by kernel_rfl) ?_
                  refine chk_rd _ _ _ _ _ _ _ _ _ _ _ _ _ _ _ _ _ _ _ _ _ _ _ _ _ _ _ _ _ _ _ _ _ _ _ _ _ _ _ _ _ _ _ _ _ _ _ _ _ _ _ _ _ _ _ _ _ _ _ _ _ _ _ _ _ _ _ _ _ _ _ _ _ _ _ _ _ _ _ _ _ _ _ _ _ _ _ _ _ _ _ _ _ _ _ _ _ _ _ _ _ _ _ _ _ _ _ _ _ _ _ _ _ _ _ _ _ _ _ _ _ _ _ _ _ _ _ _ _ _ _ _ _ _ _ _ _ _ _ _ _ _ _ _ _ _ _ _ _ _ _ _ _ _ _ _ _ _ (rest l false (k : Int)) (fails l false (k : Int)) _ _ w _ _ hR2 ((fails_ok (k := k) HKL.out).symm) ((rest_length (k := k) HKL.out)) ?_
                  intro z141 z142 z143 z144 z145 z146 z147 z148 z149 z150 z151 z152 z153 z154 z155 W3 hR3
                  have HR3 := Go.Lib.hid hR3
                  clear hR2 hR3
                  go_wp2
                  go_roundw
                  case rel => exact ⟨i + 1, _, _, _, rest l false (k : Int), false, by omega, by go_num, rfl, rfl, (rest_length (k := k) HKL.out), Go.Lib.hid (rest_small HSM.out), by have h9 := HR3.out; rw [show fails l false (k : Int) = false from ((fails_ok (k := k) HKL.out).symm).symm] at h9; exact h9⟩
                  case measure => simp [intOf]; omega
          · have hm6 : (kk : Int) % 6 = 4 := by omega
            clear hr
            cases bd with
            | true =>
              have HF := Go.Lib.hid (show fails l true sz = true from fails_bad l sz)
              go_upto_block 2 with fail
              rename_i KK HKK
              try rw [hm6]
              refine wp_code (C := rdSw) (by kernel_rfl) ?_
              refine sw_part _ _ _ _ _ _ _ _ _ _ _ _ _ _ _ _ _ _ _ _ _ _ _ _ _ _ _ _ _ _ _ _ _ _ _ _ _ _ _ _ _ _ _ _ _ _ _ _ _ _ _ _ _ _ _ _ _ _ _ _ _ _ _ _ _ _ _ _ _ _ _ _ _ _ _ _ _ _ _ _ _ _ _ _ _ _ _ _ _ _ _ _ _ _ _ _ _ _ _ _ _ _ _ _ _ _ _ _ _ _ _ _ _ _ _ _ _ _ _ _ _ _ _ _ _ _ _ _ _ _ _ _ _ _ _ _ _ _ _ _ _ _ _ _ _ _ _ _ _ _ _ _ _ _ _ _ _ l _ _ _ w _ _ _ (sw_none HR.out HSM.out HF.out) HSZW.out (HF.out.symm) ((by rw [(fails_of HF.out).1]; rfl)) ?_
              intro y16 y79 y80 y81 y82 y83 y84 y85 y86 y87 y88 y89 y90 y91 y92 y93 y94 y95 y96 y97 y98 y99 y100 y101 y102 y103 y104 y105 y106 y107 y108 y109 y110 y111 y112 y113 y114 y115 y116 y117 y118 y119 y120 y121 y122 y123 y124 y125 y126 y127 y128 y129 y130 y131 y132 y133 y134 y135 y136 y137 y138 y139 y140 W2 hR2
              refine HKK _ _ ?_
              refine wp_code (C := rdChk) (by kernel_rfl) ?_
              refine chk_rd _ _ _ _ _ _ _ _ _ _ _ _ _ _ _ _ _ _ _ _ _ _ _ _ _ _ _ _ _ _ _ _ _ _ _ _ _ _ _ _ _ _ _ _ _ _ _ _ _ _ _ _ _ _ _ _ _ _ _ _ _ _ _ _ _ _ _ _ _ _ _ _ _ _ _ _ _ _ _ _ _ _ _ _ _ _ _ _ _ _ _ _ _ _ _ _ _ _ _ _ _ _ _ _ _ _ _ _ _ _ _ _ _ _ _ _ _ _ _ _ _ _ _ _ _ _ _ _ _ _ _ _ _ _ _ _ _ _ _ _ _ _ _ _ _ _ _ _ _ _ _ _ _ _ _ _ _ _ (rest l true sz) (fails l true sz) _ _ w _ _ hR2 (HF.out.symm) ((by rw [(fails_of HF.out).2]; rfl)) ?_
              intro z141 z142 z143 z144 z145 z146 z147 z148 z149 z150 z151 z152 z153 z154 z155 W3 hR3
              have HR3 := Go.Lib.hid hR3
              clear hR2 hR3
              go_wp2
              go_roundw
              case rel => exact ⟨i + 1, _, _, _, rest l true sz, true, by omega, by go_num, rfl, rfl, (by rw [(fails_of HF.out).2]; rfl), Go.Lib.hid (rest_small HSM.out), by have h9 := HR3.out; rw [show fails l true sz = true from (HF.out.symm).symm] at h9; exact h9⟩
              case measure => simp [intOf]; omega
            | false =>
              by_cases hneg : sz < 0
              · have y0 : decide (sz < 0) = true := decide_eq_true hneg
                have HF := Go.Lib.hid (show fails l false sz = true from fails_low l hneg)
                go_upto_block 2 with fail
                rename_i KK HKK
                try rw [hm6]
                refine wp_code (C := rdSw) (by kernel_rfl) ?_
                refine sw_part _ _ _ _ _ _ _ _ _ _ _ _ _ _ _ _ _ _ _ _ _ _ _ _ _ _ _ _ _ _ _ _ _ _ _ _ _ _ _ _ _ _ _ _ _ _ _ _ _ _ _ _ _ _ _ _ _ _ _ _ _ _ _ _ _ _ _ _ _ _ _ _ _ _ _ _ _ _ _ _ _ _ _ _ _ _ _ _ _ _ _ _ _ _ _ _ _ _ _ _ _ _ _ _ _ _ _ _ _ _ _ _ _ _ _ _ _ _ _ _ _ _ _ _ _ _ _ _ _ _ _ _ _ _ _ _ _ _ _ _ _ _ _ _ _ _ _ _ _ _ _ _ _ _ _ _ _ l _ _ _ w _ _ _ (sw_none HR.out HSM.out HF.out) HSZW.out (HF.out.symm) ((by rw [(fails_of HF.out).1]; rfl)) ?_
                intro y16 y79 y80 y81 y82 y83 y84 y85 y86 y87 y88 y89 y90 y91 y92 y93 y94 y95 y96 y97 y98 y99 y100 y101 y102 y103 y104 y105 y106 y107 y108 y109 y110 y111 y112 y113 y114 y115 y116 y117 y118 y119 y120 y121 y122 y123 y124 y125 y126 y127 y128 y129 y130 y131 y132 y133 y134 y135 y136 y137 y138 y139 y140 W2 hR2
                refine HKK _ _ ?_
                refine wp_code (C := rdChk) (by kernel_rfl) ?_
                refine chk_rd _ _ _ _ _ _ _ _ _ _ _ _ _ _ _ _ _ _ _ _ _ _ _ _ _ _ _ _ _ _ _ _ _ _ _ _ _ _ _ _ _ _ _ _ _ _ _ _ _ _ _ _ _ _ _ _ _ _ _ _ _ _ _ _ _ _ _ _ _ _ _ _ _ _ _ _ _ _ _ _ _ _ _ _ _ _ _ _ _ _ _ _ _ _ _ _ _ _ _ _ _ _ _ _ _ _ _ _ _ _ _ _ _ _ _ _ _ _ _ _ _ _ _ _ _ _ _ _ _ _ _ _ _ _ _ _ _ _ _ _ _ _ _ _ _ _ _ _ _ _ _ _ _ _ _ _ _ _ (rest l false sz) (fails l false sz) _ _ w _ _ hR2 (HF.out.symm) ((by rw [(fails_of HF.out).2]; rfl)) ?_
                intro z141 z142 z143 z144 z145 z146 z147 z148 z149 z150 z151 z152 z153 z154 z155 W3 hR3
                have HR3 := Go.Lib.hid hR3
                clear hR2 hR3
                go_wp2
                go_roundw
                case rel => exact ⟨i + 1, _, _, _, rest l false sz, true, by omega, by go_num, rfl, rfl, (by rw [(fails_of HF.out).2]; rfl), Go.Lib.hid (rest_small HSM.out), by have h9 := HR3.out; rw [show fails l false sz = true from (HF.out.symm).symm] at h9; exact h9⟩
                case measure => simp [intOf]; omega
              · have y0 : decide (sz < 0) = false := decide_eq_false hneg
                by_cases hx : (l.length : Int) < sz
                · have y1 : decide ((l.length : Int) < sz) = true := decide_eq_true hx
                  have HF := Go.Lib.hid (show fails l false sz = true from fails_long hx)
                  go_upto_block 2 with fail
                  rename_i KK HKK
                  try rw [hm6]
                  refine wp_code (C := rdSw) (by kernel_rfl) ?_
                  refine sw_part _ _ _ _ _ _ _ _ _ _ _ _ _ _ _ _ _ _ _ _ _ _ _ _ _ _ _ _ _ _ _ _ _ _ _ _ _ _ _ _ _ _ _ _ _ _ _ _ _ _ _ _ _ _ _ _ _ _ _ _ _ _ _ _ _ _ _ _ _ _ _ _ _ _ _ _ _ _ _ _ _ _ _ _ _ _ _ _ _ _ _ _ _ _ _ _ _ _ _ _ _ _ _ _ _ _ _ _ _ _ _ _ _ _ _ _ _ _ _ _ _ _ _ _ _ _ _ _ _ _ _ _ _ _ _ _ _ _ _ _ _ _ _ _ _ _ _ _ _ _ _ _ _ _ _ _ _ l _ _ _ w _ _ _ (sw_none HR.out HSM.out HF.out) HSZW.out (HF.out.symm) ((by rw [(fails_of HF.out).1]; rfl)) ?_
                  intro y16 y79 y80 y81 y82 y83 y84 y85 y86 y87 y88 y89 y90 y91 y92 y93 y94 y95 y96 y97 y98 y99 y100 y101 y102 y103 y104 y105 y106 y107 y108 y109 y110 y111 y112 y113 y114 y115 y116 y117 y118 y119 y120 y121 y122 y123 y124 y125 y126 y127 y128 y129 y130 y131 y132 y133 y134 y135 y136 y137 y138 y139 y140 W2 hR2
                  refine HKK _ _ ?_
                  refine wp_code (C := rdChk) (by kernel_rfl) ?_
                  refine chk_rd _ _ _ _ _ _ _ _ _ _ _ _ _ _ _ _ _ _ _ _ _ _ _ _ _ _ _ _ _ _ _ _ _ _ _ _ _ _ _ _ _ _ _ _ _ _ _ _ _ _ _ _ _ _ _ _ _ _ _ _ _ _ _ _ _ _ _ _ _ _ _ _ _ _ _ _ _ _ _ _ _ _ _ _ _ _ _ _ _ _ _ _ _ _ _ _ _ _ _ _ _ _ _ _ _ _ _ _ _ _ _ _ _ _ _ _ _ _ _ _ _ _ _ _ _ _ _ _ _ _ _ _ _ _ _ _ _ _ _ _ _ _ _ _ _ _ _ _ _ _ _ _ _ _ _ _ _ _ (rest l false sz) (fails l false sz) _ _ w _ _ hR2 (HF.out.symm) ((by rw [(fails_of HF.out).2]; rfl)) ?_
                  intro z141 z142 z143 z144 z145 z146 z147 z148 z149 z150 z151 z152 z153 z154 z155 W3 hR3
                  have HR3 := Go.Lib.hid hR3
                  clear hR2 hR3
                  go_wp2
                  go_roundw
                  case rel => exact ⟨i + 1, _, _, _, rest l false sz, true, by omega, by go_num, rfl, rfl, (by rw [(fails_of HF.out).2]; rfl), Go.Lib.hid (rest_small HSM.out), by have h9 := HR3.out; rw [show fails l false sz = true from (HF.out.symm).symm] at h9; exact h9⟩
                  case measure => simp [intOf]; omega
                · have y1 : decide ((l.length : Int) < sz) = false := decide_eq_false hx
                  obtain ⟨k, rfl⟩ := Int.eq_ofNat_of_zero_le (show 0 ≤ sz by omega)
                  have HKL := Go.Lib.hid (show k ≤ l.length by omega)
                  go_upto_region 15 with fail
                  go_quiet (fail)
                  go_upto_block 2 with fail
                  rename_i KK HKK
                  try rw [hm6]
                  refine wp_code (C := rdSw) (by kernel_rfl) ?_
                  refine sw_part _ _ _ _ _ _ _ _ _ _ _ _ _ _ _ _ _ _ _ _ _ _ _ _ _ _ _ _ _ _ _ _ _ _ _ _ _ _ _ _ _ _ _ _ _ _ _ _ _ _ _ _ _ _ _ _ _ _ _ _ _ _ _ _ _ _ _ _ _ _ _ _ _ _ _ _ _ _ _ _ _ _ _ _ _ _ _ _ _ _ _ _ _ _ _ _ _ _ _ _ _ _ _ _ _ _ _ _ _ _ _ _ _ _ _ _ _ _ _ _ _ _ _ _ _ _ _ _ _ _ _ _ _ _ _ _ _ _ _ _ _ _ _ _ _ _ _ _ _ _ _ _ _ _ _ _ _ l _ _ _ w _ _ _ (show Sw w n P F l false (k : Int) _ _ _ from sw_some (k := k) HR.out HSM.out HKL.out (by simp [Addr.add])) HSZW.out ((fails_ok (k := k) HKL.out).symm) (got_length (k := k) HKL.out) ?_
                  intro y16 y79 y80 y81 y82 y83 y84 y85 y86 y87 y88 y89 y90 y91 y92 y93 y94 y95 y96 y97 y98 y99 y100 y101 y102 y103 y104 y105 y106 y107 y108 y109 y110 y111 y112 y113 y114 y115 y116 y117 y118 y119 y120 y121 y122 y123 y124 y125 y126 y127 y128 y129 y130 y131 y132 y133 y134 y135 y136 y137 y138 y139 y140 W2 hR2
                  refine HKK _ _ ?_
                  refine wp_code (C := rdChk) (by kernel_rfl) ?_
                  refine chk_rd _ _ _ _ _ _ _ _ _ _ _ _ _ _ _ _ _ _ _ _ _ _ _ _ _ _ _ _ _ _ _ _ _ _ _ _ _ _ _ _ _ _ _ _ _ _ _ _ _ _ _ _ _ _ _ _ _ _ _ _ _ _ _ _ _ _ _ _ _ _ _ _ _ _ _ _ _ _ _ _ _ _ _ _ _ _ _ _ _ _ _ _ _ _ _ _ _ _ _ _ _ _ _ _ _ _ _ _ _ _ _ _ _ _ _ _ _ _ _ _ _ _ _ _ _ _ _ _ _ _ _ _ _ _ _ _ _ _ _ _ _ _ _ _ _ _ _ _ _ _ _ _ _ _ _ _ _ _ (rest l false (k : Int)) (fails l false (k : Int)) _ _ w _ _ hR2 ((fails_ok (k := k) HKL.out).symm) ((rest_length (k := k) HKL.out)) ?_
                  intro z141 z142 z143 z144 z145 z146 z147 z148 z149 z150 z151 z152 z153 z154 z155 W3 hR3
                  have HR3 := Go.Lib.hid hR3
                  clear hR2 hR3
                  go_wp2
                  go_roundw
                  case rel => exact ⟨i + 1, _, _, _, rest l false (k : Int), false, by omega, by go_num, rfl, rfl, (rest_length (k := k) HKL.out), Go.Lib.hid (rest_small HSM.out), by have h9 := HR3.out; rw [show fails l false (k : Int) = false from ((fails_ok (k := k) HKL.out).symm).symm] at h9; exact h9⟩
                  case measure => simp [intOf]; omega
          · have hm6 : (kk : Int) % 6 = 5 := by omega
            clear hr
            cases bd with
            | true =>
              have HF := Go.Lib.hid (show fails l true (l.length : Int) = true from fails_bad l (l.length : Int))
              go_upto_block 2 with fail
              rename_i KK HKK
              try rw [hm6]
              refine wp_code (C := rdSw) (by kernel_rfl) ?_
              refine sw_rest _ _ _ _ _ _ _ _ _ _ _ _ _ _ _ _ _ _ _ _ _ _ _ _ _ _ _ _ _ _ _ _ _ _ _ _ _ _ _ _ _ _ _ _ _ _ _ _ _ _ _ _ _ _ _ _ _ _ _ _ _ _ _ _ _ _ _ _ _ _ _ _ _ _ _ _ _ _ _ _ _ _ _ _ _ _ _ _ _ _ _ _ _ _ _ _ _ _ _ _ _ _ _ _ _ _ _ _ _ _ _ _ _ _ _ _ _ _ _ _ _ _ _ _ _ _ _ _ _ _ _ _ _ _ _ _ _ _ _ _ _ _ _ _ _ _ _ _ _ _ _ _ _ _ _ _ l _ _ _ w _ _ _ (sw_none HR.out HSM.out HF.out) (HF.out.symm) ((by rw [(fails_of HF.out).1]; rfl)) ?_
              intro y16 y79 y80 y81 y82 y83 y84 y85 y86 y87 y88 y89 y90 y91 y92 y93 y94 y95 y96 y97 y98 y99 y100 y101 y102 y103 y104 y105 y106 y107 y108 y109 y110 y111 y112 y113 y114 y115 y116 y117 y118 y119 y120 y121 y122 y123 y124 y125 y126 y127 y128 y129 y130 y131 y132 y133 y134 y135 y136 y137 y138 y139 y140 W2 hR2
              refine HKK _ _ ?_
              refine wp_code (C := rdChk) (by kernel_rfl) ?_
              refine chk_rd _ _ _ _ _ _ _ _ _ _ _ _ _ _ _ _ _ _ _ _ _ _ _ _ _ _ _ _ _ _ _ _ _ _ _ _ _ _ _ _ _ _ _ _ _ _ _ _ _ _ _ _ _ _ _ _ _ _ _ _ _ _ _ _ _ _ _ _ _ _ _ _ _ _ _ _ _ _ _ _ _ _ _ _ _ _ _ _ _ _ _ _ _ _ _ _ _ _ _ _ _ _ _ _ _ _ _ _ _ _ _ _ _ _ _ _ _ _ _ _ _ _ _ _ _ _ _ _ _ _ _ _ _ _ _ _ _ _ _ _ _ _ _ _ _ _ _ _ _ _ _ _ _ _ _ _ _ _ (rest l true (l.length : Int)) (fails l true (l.length : Int)) _ _ w _ _ hR2 (HF.out.symm) ((by rw [(fails_of HF.out).2]; rfl)) ?_
              intro z141 z142 z143 z144 z145 z146 z147 z148 z149 z150 z151 z152 z153 z154 z155 W3 hR3
              have HR3 := Go.Lib.hid hR3
              clear hR2 hR3
              go_wp2
              go_roundw
              case rel => exact ⟨i + 1, _, _, _, rest l true (l.length : Int), true, by omega, by go_num, rfl, rfl, (by rw [(fails_of HF.out).2]; rfl), Go.Lib.hid (rest_small HSM.out), by have h9 := HR3.out; rw [show fails l true (l.length : Int) = true from (HF.out.symm).symm] at h9; exact h9⟩
              case measure => simp [intOf]; omega
            | false =>
              have HKL := Go.Lib.hid (show l.length ≤ l.length by omega)
              go_upto_region 15 with fail
              go_quiet (fail)
              go_upto_block 2 with fail
              rename_i KK HKK
              try rw [hm6]
              refine wp_code (C := rdSw) (by kernel_rfl) ?_
              refine sw_rest _ _ _ _ _ _ _ _ _ _ _ _ _ _ _ _ _ _ _ _ _ _ _ _ _ _ _ _ _ _ _ _ _ _ _ _ _ _ _ _ _ _ _ _ _ _ _ _ _ _ _ _ _ _ _ _ _ _ _ _ _ _ _ _ _ _ _ _ _ _ _ _ _ _ _ _ _ _ _ _ _ _ _ _ _ _ _ _ _ _ _ _ _ _ _ _ _ _ _ _ _ _ _ _ _ _ _ _ _ _ _ _ _ _ _ _ _ _ _ _ _ _ _ _ _ _ _ _ _ _ _ _ _ _ _ _ _ _ _ _ _ _ _ _ _ _ _ _ _ _ _ _ _ _ _ _ l _ _ _ w _ _ _ (show Sw w n P F l false (l.length : Int) _ _ _ from sw_some (k := l.length) HR.out HSM.out HKL.out (by simp [Addr.add])) ((fails_ok (k := l.length) HKL.out).symm) (got_length (k := l.length) HKL.out) ?_
              intro y16 y79 y80 y81 y82 y83 y84 y85 y86 y87 y88 y89 y90 y91 y92 y93 y94 y95 y96 y97 y98 y99 y100 y101 y102 y103 y104 y105 y106 y107 y108 y109 y110 y111 y112 y113 y114 y115 y116 y117 y118 y119 y120 y121 y122 y123 y124 y125 y126 y127 y128 y129 y130 y131 y132 y133 y134 y135 y136 y137 y138 y139 y140 W2 hR2
              refine HKK _ _ ?_
              refine wp_code (C := rdChk) (by kernel_rfl) ?_
              refine chk_rd _ _ _ _ _ _ _ _ _ _ _ _ _ _ _ _ _ _ _ _ _ _ _ _ _ _ _ _ _ _ _ _ _ _ _ _ _ _ _ _ _ _ _ _ _ _ _ _ _ _ _ _ _ _ _ _ _ _ _ _ _ _ _ _ _ _ _ _ _ _ _ _ _ _ _ _ _ _ _ _ _ _ _ _ _ _ _ _ _ _ _ _ _ _ _ _ _ _ _ _ _ _ _ _ _ _ _ _ _ _ _ _ _ _ _ _ _ _ _ _ _ _ _ _ _ _ _ _ _ _ _ _ _ _ _ _ _ _ _ _ _ _ _ _ _ _ _ _ _ _ _ _ _ _ _ _ _ _ (rest l false (l.length : Int)) (fails l false (l.length : Int)) _ _ w _ _ hR2 ((fails_ok (k := l.length) HKL.out).symm) (((Nat.sub_self _).symm.trans (rest_length (k := l.length) HKL.out))) ?_
              intro z141 z142 z143 z144 z145 z146 z147 z148 z149 z150 z151 z152 z153 z154 z155 W3 hR3
              have HR3 := Go.Lib.hid hR3
              clear hR2 hR3
              go_wp2
              go_roundw
              case rel => exact ⟨i + 1, _, _, _, rest l false (l.length : Int), false, by omega, by go_num, rfl, rfl, ((Nat.sub_self _).symm.trans (rest_length (k := l.length) HKL.out)), Go.Lib.hid (rest_small HSM.out), by have h9 := HR3.out; rw [show fails l false (l.length : Int) = false from ((fails_ok (k := l.length) HKL.out).symm).symm] at h9; exact h9⟩
              case measure => simp [intOf]; omega
        · have z3 : decide ((i : Int) < 60) = false := decide_eq_false (by omega)
          have z1 : (i : Int) < (ks.length : Int) := by omega
          have z2 : (i : Int) < (ss.length : Int) := by omega
          clear hR
          go_wp2_with (go_at_call 18; refine (CL.out _).mono ?_; rintro e w9 ⟨rfl, hb9⟩; have B9 := Go.Lib.hid hb9; clear hb9)
          go_ret
          exact ⟨rfl, HR.out.below.trans (B9.out.mono HR.out.below.size)⟩
      · have z2 : decide ((i : Int) < (ss.length : Int)) = false := decide_eq_false (by omega)
        have z1 : (i : Int) < (ks.length : Int) := by omega
        clear hR
        go_wp2_with (go_at_call 18; refine (CL.out _).mono ?_; rintro e w9 ⟨rfl, hb9⟩; have B9 := Go.Lib.hid hb9; clear hb9)
        go_ret
        exact ⟨rfl, HR.out.below.trans (B9.out.mono HR.out.below.size)⟩
    · have z1 : decide ((i : Int) < (ks.length : Int)) = false := decide_eq_false (by omega)
      clear hR
      go_wp2_with (go_at_call 18; refine (CL.out _).mono ?_; rintro e w9 ⟨rfl, hb9⟩; have B9 := Go.Lib.hid hb9; clear hb9)
      go_ret
      exact ⟨rfl, HR.out.below.trans (B9.out.mono HR.out.below.size)⟩
end Go.Proofs.Ytkomelckmhnpeaa.Oct
