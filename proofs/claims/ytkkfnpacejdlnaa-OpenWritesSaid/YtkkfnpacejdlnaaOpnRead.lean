/- The program's read of an Open's parameters. -/
import Derived.Test.YtkkfnpacejdlnaaOpnPar
namespace Go.Proofs.Ytkkfnpacejdlnaa.Opn
open Go.RowKit Mem Oct Att Ahead

set_option maxRecDepth 100000 in
set_option maxHeartbeats 8000000 in
theorem read_any (base n br B : Nat) (l : List Nat) (o : Op) (w : World) (hs : Small l) (hR : R w base n (.pointer (some ⟨br, 0, none⟩)) l false (fun k => k = br)) (hB : Box4 w B 24 (.int .u32 o.an) (.int .i64 o.hold) (.int .u32 o.ri) (.bool o.four)) (hn : n ≤ w.heap.size) (hne : B ≠ br) :
    Calls Try.prog 35 #[.pointer (some ⟨br, 0, none⟩), .pointer (some ⟨B, 0, none⟩)] w (ReadF B br o l w) := by
  have S0 := Go.Lib.hid (PrSt.start (x := ⟨l, false⟩) hR hB hn hne)
  have HS := Go.Lib.hid hs
  have CF := Go.Lib.hid fault_any
  have CNX := Go.Lib.hid onext_any
  have CL := Go.Lib.hid left_any
  have CB := Go.Lib.hid bad_any
  have CU := Go.Lib.hid u32_any
  clear hs hR hB hn hne
  go_enter Try.func35, Try.ntmps35
  go_wp2
  refine wp_scope_ahead 0 (by rfl) ?_
  go_wp2
  go_loopw [5, 6, 7, 8] (fun _ _ _ _ wx => ∃ (lx : List Nat) (o1 : Op), Hid (pars o l = pars o1 lx ∧ Small lx) ∧ Hid (PrSt w base n br B ⟨lx, false⟩ o1 wx)) (fun _ _ _ _ wx => rlen wx br)
  case atStart => exact ⟨l, o, Go.Lib.hid ⟨rfl, HS.out⟩, S0⟩
  case round =>
    clear S0
    obtain ⟨lx, o1, HI, S1⟩ := hrel
    have CLX := Go.Lib.hid (CL.out _ _ _ _ _ _ _ S1.out.rd)
    rcases on_cases lx with hl | ⟨hbad, hpos, hp, -⟩ | ⟨t, m, r, hl, hm, eK, eV, eR⟩
    · have HD := Go.Lib.hid (show pars o l = .inr o1 from by rw [HI.out.1, hl]; exact pars_nil o1)
      have zl : ((lx.length : Nat) : Int) = 0 := by rw [hl]; rfl
      rw [show (Rd.mk lx false).l.length = lx.length from rfl, zl] at CLX
      clear hl zl
      go_wp2_with (go_at_call 34; first | (refine (CLX.out).mono ?_; rintro e z ⟨rfl, hb⟩; have S2 := Go.Lib.hid (S1.out.below hb); clear hb; obtain ⟨f0, f1, f2⟩ := S2.out.rs.cells; have fr := S2.out.rs.free) | (trace "FELL L"; trace_state; fail_if_success skip))
      rw [jump_ret]
      (try simp only [Exit.inBlock, Exit.then])
      obtain ⟨r0, r1, r2⟩ := (S2.out.rs.laid (.int .i64 0) (.int .i64 0) (.slice none 0 0)).cells
      unfold three at r0 r1 r2
      refine bodyPost_ret (v := .agg #[.int .i64 0, .int .i64 0, .slice none 0 0]) (by simp [results, Try.results35, go_sem, r0, r1, r2]) rfl ?_
      obtain ⟨k1, k2⟩ := S2.out.fin (.int .i64 0) (.int .i64 0) (.slice none 0 0)
      exact ⟨k1, .inl ⟨o1, HD.out, rfl, k2⟩⟩
    · have HD := Go.Lib.hid (show pars o l = .inl 0 from by rw [HI.out.1]; exact hp o1)
      have zl : (0 : Int) < ((Rd.mk lx false).l.length : Int) := by show (0 : Int) < (lx.length : Int); omega
      have CX := Go.Lib.hid (fun W h => CNX.out (.pointer (some ⟨br, 0, none⟩)) base n ⟨lx, false⟩ (fun k => k = br) W HI.out.2 h)
      obtain ⟨Y, hY⟩ : ∃ Y, Y = onR ⟨lx, false⟩ := ⟨_, rfl⟩
      have HY := Go.Lib.hid hY
      have CBX := Go.Lib.hid (fun W (h : R W base n (.pointer (some ⟨br, 0, none⟩)) Y.l true (fun k => k = br)) => CB.out _ _ _ _ _ _ W h)
      have HYB := Go.Lib.hid (show Y.b = true from by rw [hY]; exact hbad)
      generalize (Rd.mk lx false).l.length = L at CLX zl
      clear hbad hpos hp hY
      go_wp2_with (first
        | (go_at_call 34; first | (refine (CLX.out).mono ?_; rintro e z ⟨rfl, hb⟩; have S2 := Go.Lib.hid (S1.out.below hb); clear hb) | (trace "FELL L"; trace_state; fail_if_success skip))
        | (have h := S2.out; go_at_call 43; first | (refine (CX.out _ h.rd (Nat.le_trans h.ge.1 h.on.size)).mono ?_; rintro e z ⟨b2, rfl, hb2, hV, hR, ho⟩; rw [← HY.out] at hR; have S3 := Go.Lib.hid (h.read (y := Y) hR ho); clear hb2 hV hR ho h S2) | (trace "FELL N"; trace_state; fail_if_success skip))
        | (have h := S3.out; go_at_call 32; first | (have hr := h.rd; rw [HYB.out] at hr; refine (CBX.out _ hr).mono ?_; rintro e z ⟨rfl, hb⟩; have S4 := Go.Lib.hid (h.below hb); clear hb hr h S3) | (trace "FELL B"; trace_state; fail_if_success skip)))
      go_step3
      refine ⟨rfl, ?_⟩
      go_wp2_with (have h := S4.out; go_at_call 33; first | (refine (CF.out _ _ _ _ _).mono ?_; rintro e z ⟨rfl, hb⟩; have SZ := Go.Lib.hid (h.below hb); clear hb h; obtain ⟨f0, f1, f2⟩ := SZ.out.rs.cells; have fr := SZ.out.rs.free) | (trace "FELL F S4"; trace_state; fail_if_success skip))
      rw [Exit.noGoto_ret]
      (try simp only [Exit.inBlock, Exit.then])
      obtain ⟨r0, r1, r2⟩ := (SZ.out.rs.laid (.int .i64 2) (.int .i64 0) (.slice none 0 0)).cells
      unfold three at r0 r1 r2
      refine bodyPost_ret (v := .agg #[.int .i64 2, .int .i64 0, .slice none 0 0]) (by simp [results, Try.results35, go_sem, r0, r1, r2]) rfl ?_
      obtain ⟨k1, k2⟩ := SZ.out.fin (.int .i64 2) (.int .i64 0) (.slice none 0 0)
      exact ⟨k1, .inr ⟨0, HD.out, .inl rfl, rfl⟩⟩
    · have zl : (0 : Int) < ((Rd.mk lx false).l.length : Int) := by show (0 : Int) < (lx.length : Int); rw [hl]; simp only [List.length_cons]; omega
      have HM := Go.Lib.hid (show rlen wr br = lx.length from R_rlen S1.out.rd)
      obtain ⟨lr, hlr⟩ : ∃ lr, lr = r.drop m := ⟨_, rfl⟩
      obtain ⟨ll, hll⟩ : ∃ ll, ll = r.take m := ⟨_, rfl⟩
      have hSr : Small r := fun x hx => HI.out.2 x (by rw [hl]; simp [hx])
      have HSR := Go.Lib.hid (show Small lr from by rw [hlr]; exact hSr.drop m)
      have HSL := Go.Lib.hid (show Small ll from by rw [hll]; exact hSr.take m)
      have HLL := Go.Lib.hid (show lr.length < lx.length from by rw [hlr, hl, List.length_drop]; simp; omega)
      have HP := Go.Lib.hid (show pars o l = if t = 2 then thenO (caps o1 ll) (fun o2 => pars o2 lr) else .inl 4 from by rw [HI.out.1, hl, pars_two, if_pos hm, hll, hlr])
      have CX := Go.Lib.hid (fun W (h : R W base n (.pointer (some ⟨br, 0, none⟩)) lx false (fun k => k = br)) (hn : n ≤ W.heap.size) => show Calls Try.prog 43 #[.pointer (some ⟨br, 0, none⟩)] W (fun e w' => ∃ b, e = .returned (.tuple #[.int .i64 t, .pointer (some ⟨b, 0, none⟩)]) ∧ W.heap.size ≤ b ∧ R w' W.heap.size w'.heap.size (.pointer (some ⟨b, 0, none⟩)) ll false (fun k => k = b) ∧ R w' base n (.pointer (some ⟨br, 0, none⟩)) lr false (fun k => k = br) ∧ Only (fun k => k = br) W w') from by
        have h1 := CNX.out (.pointer (some ⟨br, 0, none⟩)) base n ⟨lx, false⟩ (fun k => k = br) W HI.out.2 h hn
        unfold NextF at h1
        rw [eK, eV, eR] at h1
        rw [hll, hlr]
        exact h1)
      have CBX := Go.Lib.hid (fun W (h : R W base n (.pointer (some ⟨br, 0, none⟩)) lr false (fun k => k = br)) => CB.out _ _ _ _ _ _ W h)
      generalize (Rd.mk lx false).l.length = L at CLX zl
      clear hl hm eK eV eR hlr hll hSr
      by_cases ht : t = 2
      · subst ht
        have H0 := Go.Lib.hid (show pars o l = thenO (caps o1 ll) (fun o3 => pars o3 lr) ∧ Small ll from ⟨HP.out, HSL.out⟩)
        go_wp2_with (first
          | (go_at_call 34; first | (refine (CLX.out).mono ?_; rintro e z ⟨rfl, hb⟩; have S2 := Go.Lib.hid (S1.out.below hb); clear hb) | (trace "FELL L"; trace_state; fail_if_success skip))
          | (have h := S2.out; go_at_call 43; first | (refine (CX.out _ h.rd (Nat.le_trans h.ge.1 h.on.size)).mono ?_; rintro e z ⟨b2, rfl, hb2, hV, hR, ho⟩; have hsz := h.rs.lt; have S3 := Go.Lib.hid (And.intro (h.read (y := ⟨lr, false⟩) hR ho) (R_base hV (show w.heap.size + 1 ≤ _ from hsz))); clear hb2 hV hR ho h S2 hsz) | (trace "FELL N"; trace_state; fail_if_success skip))
          | (have h := S3.out; go_at_call 32; first | (refine (CBX.out _ h.1.rd).mono ?_; rintro e z2 ⟨rfl, hb⟩; have S4 := Go.Lib.hid (InSt.start (y := ⟨ll, false⟩) (h.1.below hb) (h.2.below hb)); clear hb h S3) | (trace "FELL B"; trace_state; fail_if_success skip)))
        go_loopw [7, 8] (fun _ _ wx => ∃ (ly : List Nat) (o2 : Op), Hid (pars o l = thenO (caps o2 ly) (fun o3 => pars o3 lr) ∧ Small ly) ∧ Hid (InSt w base n br B ⟨lr, false⟩ b2 z.heap.size ⟨ly, false⟩ o2 wx)) (fun _ _ wx => rlen wx b2)
        case atStart => exact ⟨ll, o1, H0, S4⟩
        case round =>
          clear S4 H0
          obtain ⟨ly, o2, HI2, I1⟩ := hrel
          have CL2 := Go.Lib.hid (CL.out _ _ _ _ _ _ _ I1.out.ls)
          have HM2 := Go.Lib.hid (R_rlen I1.out.ls)
          rcases on_cases ly with hl2 | ⟨hbad, hpos, -, hp⟩ | ⟨t, m, r, hl2, hm, eK, eV, eR⟩
          · have HN := Go.Lib.hid (show pars o l = pars o2 lr from by rw [HI2.out.1, hl2, caps_nil]; rfl)
            have zl : ((ly.length : Nat) : Int) = 0 := by rw [hl2]; rfl
            rw [show (Rd.mk ly false).l.length = ly.length from rfl, zl] at CL2
            clear hl2 zl
            go_wp2_with (first
              | (have h := I1.out; go_at_call 34; first | (refine (CL2.out).mono ?_; rintro e q1 ⟨rfl, hb⟩; have I2 := Go.Lib.hid (h.below hb); clear hb h I1) | (trace "FELL L2"; trace_state; fail_if_success skip)))
            go_roundw
            case rel => exact ⟨lr, o2, Go.Lib.hid ⟨HN.out, HSR.out⟩, Go.Lib.hid I2.out.pr⟩
            case measure =>
              have e1 := R_rlen I2.out.pr.rd
              have e2 := HM.out
              have e3 := HLL.out
              rw [e1, e2]
              exact e3
          · have HD := Go.Lib.hid (show pars o l = .inl 0 from by rw [HI2.out.1, hp o2]; rfl)
            have zl : (0 : Int) < ((Rd.mk ly false).l.length : Int) := by show (0 : Int) < (ly.length : Int); omega
            have CX2 := Go.Lib.hid (fun W h => CNX.out (.pointer (some ⟨b2, 0, none⟩)) (w.heap.size + 1) z.heap.size ⟨ly, false⟩ (fun k => k = b2) W HI2.out.2 h)
            obtain ⟨Y, hY⟩ : ∃ Y, Y = onR ⟨ly, false⟩ := ⟨_, rfl⟩
            have HY := Go.Lib.hid hY
            have CB2 := Go.Lib.hid (fun W (h : R W (w.heap.size + 1) z.heap.size (.pointer (some ⟨b2, 0, none⟩)) Y.l true (fun k => k = b2)) => CB.out _ _ _ _ _ _ W h)
            have HYB := Go.Lib.hid (show Y.b = true from by rw [hY]; exact hbad)
            generalize (Rd.mk ly false).l.length = L at CL2 zl
            clear hbad hpos hp hY
            go_wp2_with (first
              | (have h := I1.out; go_at_call 34; first | (refine (CL2.out).mono ?_; rintro e q1 ⟨rfl, hb⟩; have I2 := Go.Lib.hid (h.below hb); clear hb h I1) | (trace "FELL L2"; trace_state; fail_if_success skip))
              | (have h := I2.out; go_at_call 43; first | (refine (CX2.out _ h.ls h.lt.2.2).mono ?_; rintro e q2 ⟨b3, rfl, hb3, hV, hR, ho⟩; rw [← HY.out] at hR; have I3 := Go.Lib.hid (h.read (z := Y) hR ho); clear hb3 hV hR ho h I2) | (trace "FELL N3"; trace_state; fail_if_success skip))
              | (have h := I3.out; go_at_call 32; first | (have hr := h.ls; rw [HYB.out] at hr; refine (CB2.out _ hr).mono ?_; rintro e q3 ⟨rfl, hb⟩; have I4 := Go.Lib.hid (h.below hb); clear hb hr h I3) | (trace "FELL B3"; trace_state; fail_if_success skip)))
            go_step3
            refine ⟨rfl, ?_⟩
            go_wp2_with (have h := I4.out; go_at_call 33; first | (refine (CF.out _ _ _ _ _).mono ?_; rintro e z ⟨rfl, hb⟩; have SZ := Go.Lib.hid (h.pr.below hb); clear hb h; obtain ⟨f0, f1, f2⟩ := SZ.out.rs.cells; have fr := SZ.out.rs.free) | (trace "FELL F I4"; trace_state; fail_if_success skip))
            rw [Exit.noGoto_ret]
            (try simp only [Exit.inBlock, Exit.then])
            obtain ⟨r0, r1, r2⟩ := (SZ.out.rs.laid (.int .i64 2) (.int .i64 0) (.slice none 0 0)).cells
            unfold three at r0 r1 r2
            refine bodyPost_ret (v := .agg #[.int .i64 2, .int .i64 0, .slice none 0 0]) (by simp [results, Try.results35, go_sem, r0, r1, r2]) rfl ?_
            obtain ⟨k1, k2⟩ := SZ.out.fin (.int .i64 2) (.int .i64 0) (.slice none 0 0)
            exact ⟨k1, .inr ⟨0, HD.out, .inl rfl, rfl⟩⟩
          · have zl : (0 : Int) < ((Rd.mk ly false).l.length : Int) := by show (0 : Int) < (ly.length : Int); rw [hl2]; simp only [List.length_cons]; omega
            obtain ⟨lz, hlz⟩ : ∃ lz, lz = r.drop m := ⟨_, rfl⟩
            obtain ⟨D, hD⟩ : ∃ D, D = r.take m := ⟨_, rfl⟩
            have hSr : Small r := fun x hx => HI2.out.2 x (by rw [hl2]; simp [hx])
            have HSZ := Go.Lib.hid (show Small lz from by rw [hlz]; exact hSr.drop m)
            have HSD := Go.Lib.hid (show Small D from by rw [hD]; exact hSr.take m)
            have HLZ := Go.Lib.hid (show lz.length < ly.length from by rw [hlz, hl2, List.length_drop]; simp; omega)
            have hDL : D.length = m := by rw [hD, List.length_take]; omega
            have HC := Go.Lib.hid (show caps o2 ly = if t = 65 then (if m = 4 ∧ val D ≠ 0 then caps ⟨val D, o2.hold, o2.ri, true⟩ lz else none) else caps o2 lz from by rw [hl2, caps_step, if_pos hm, ← hD, ← hlz])
            have CX2 := Go.Lib.hid (fun W (h : R W (w.heap.size + 1) z.heap.size (.pointer (some ⟨b2, 0, none⟩)) ly false (fun k => k = b2)) (hn : z.heap.size ≤ W.heap.size) => show Calls Try.prog 43 #[.pointer (some ⟨b2, 0, none⟩)] W (fun e w' => ∃ b, e = .returned (.tuple #[.int .i64 t, .pointer (some ⟨b, 0, none⟩)]) ∧ W.heap.size ≤ b ∧ R w' W.heap.size w'.heap.size (.pointer (some ⟨b, 0, none⟩)) D false (fun k => k = b) ∧ R w' (w.heap.size + 1) z.heap.size (.pointer (some ⟨b2, 0, none⟩)) lz false (fun k => k = b2) ∧ Only (fun k => k = b2) W w') from by
              have h1 := CNX.out (.pointer (some ⟨b2, 0, none⟩)) (w.heap.size + 1) z.heap.size ⟨ly, false⟩ (fun k => k = b2) W HI2.out.2 h hn
              unfold NextF at h1
              rw [eK, eV, eR] at h1
              rw [hD, hlz]
              exact h1)
            have CB2 := Go.Lib.hid (fun W (h : R W (w.heap.size + 1) z.heap.size (.pointer (some ⟨b2, 0, none⟩)) lz false (fun k => k = b2)) => CB.out _ _ _ _ _ _ W h)
            generalize (Rd.mk ly false).l.length = L at CL2 zl
            clear hl2 hm eK eV eR hlz hD hSr
            by_cases ht : t = 65
            · subst ht
              obtain ⟨N, hN⟩ : ∃ N, N = (Rd.mk D false).num 4 := ⟨_, rfl⟩
              obtain ⟨Z, hZ⟩ : ∃ Z, Z = (Rd.mk D false).go 4 := ⟨_, rfl⟩
              have CU2 := Go.Lib.hid (fun b3 n3 W (h : R W z.heap.size n3 (.pointer (some ⟨b3, 0, none⟩)) D false (fun k => k = b3)) => show Calls Try.prog 31 #[.pointer (some ⟨b3, 0, none⟩)] W (fun e w' => e = .returned (.int .u32 N) ∧ R w' z.heap.size n3 (.pointer (some ⟨b3, 0, none⟩)) Z.l Z.b (fun k => k = b3) ∧ Only (fun k => k = b3) W w') from by
                rw [hN, hZ]
                exact CU.out _ _ _ D false _ W HSD.out h)
              have CL3 := Go.Lib.hid (fun b3 n3 W (h : R W z.heap.size n3 (.pointer (some ⟨b3, 0, none⟩)) Z.l Z.b (fun k => k = b3)) => CL.out _ _ _ _ _ _ W h)
              have hfg := four_go D
              rw [← hN, ← hZ] at hfg
              have hN4 : N < 4294967296 := by rw [hN]; exact num_lt (x := ⟨D, false⟩) HSD.out 4
              clear hN hZ
              by_cases hN0 : N = 0
              · have y3 : ((N : Int) == 0) = true := by simp [hN0]
                have HD := Go.Lib.hid (show pars o l = .inl 0 from by
                  have hno : ¬ (m = 4 ∧ val D ≠ 0) := by
                    rintro ⟨e4, ev⟩
                    rcases hfg with ⟨_, e, _⟩ | ⟨e, _⟩
                    · exact ev (e.symm.trans hN0)
                    · omega
                  rw [HI2.out.1, HC.out, if_pos rfl, if_neg hno]; rfl)
                clear hN0 hfg hDL
                go_wp2_with (first
                  | (have h := I1.out; go_at_call 34; first | (refine (CL2.out).mono ?_; rintro e q1 ⟨rfl, hb⟩; have I2 := Go.Lib.hid (h.below hb); clear hb h I1) | (trace "FELL L2"; trace_state; fail_if_success skip))
                  | (have h := I2.out; go_at_call 43; first | (refine (CX2.out _ h.ls h.lt.2.2).mono ?_; rintro e q2 ⟨b3, rfl, hb3, hV, hR, ho⟩; have I3 := Go.Lib.hid (VaSt.mk (z := ⟨D, false⟩) (h.read (z := ⟨lz, false⟩) hR ho) (R_base hV h.lt.2.2)); clear hb3 hV hR ho h I2) | (trace "FELL N2"; trace_state; fail_if_success skip))
                  | (have h := I3.out; go_at_call 32; first | (refine (CB2.out _ h.ins.ls).mono ?_; rintro e q3 ⟨rfl, hb⟩; have I4 := Go.Lib.hid (h.below hb); clear hb h I3; obtain ⟨c0, c1, c2, c3⟩ := I4.out.ins.pr.bo.cells; have fo := I4.out.ins.pr.bo.free; have I5 := Go.Lib.hid I4.out.set3) | (trace "FELL B2"; trace_state; fail_if_success skip))
                  | (have h := I5.out; go_at_call 31; first | (refine (CU2.out _ _ _ h.vl).mono ?_; rintro e q4 ⟨rfl, hR, ho⟩; have I6 := Go.Lib.hid (h.read (u := Z) hR ho); clear hR ho h I5 I4 c0 c1 c2 c3 fo; obtain ⟨c0, c1, c2, c3⟩ := I6.out.ins.pr.bo.cells; have fo := I6.out.ins.pr.bo.free; have I7 := Go.Lib.hid (I6.out.set0 N); obtain ⟨d0, d1, d2, d3⟩ := I7.out.ins.pr.bo.cells) | (trace "FELL U"; trace_state; fail_if_success skip)))
                go_step3
                refine ⟨rfl, ?_⟩
                go_wp2_with (have h := I7.out; go_at_call 33; first | (refine (CF.out _ _ _ _ _).mono ?_; rintro e z ⟨rfl, hb⟩; have SZ := Go.Lib.hid (h.ins.pr.below hb); clear hb h; obtain ⟨f0, f1, f2⟩ := SZ.out.rs.cells; have fr := SZ.out.rs.free) | (trace "FELL F I7"; trace_state; fail_if_success skip))
                rw [Exit.noGoto_ret]
                (try simp only [Exit.inBlock, Exit.then])
                obtain ⟨r0, r1, r2⟩ := (SZ.out.rs.laid (.int .i64 2) (.int .i64 0) (.slice none 0 0)).cells
                unfold three at r0 r1 r2
                refine bodyPost_ret (v := .agg #[.int .i64 2, .int .i64 0, .slice none 0 0]) (by simp [results, Try.results35, go_sem, r0, r1, r2]) rfl ?_
                obtain ⟨k1, k2⟩ := SZ.out.fin (.int .i64 2) (.int .i64 0) (.slice none 0 0)
                exact ⟨k1, .inr ⟨0, HD.out, .inl rfl, rfl⟩⟩
              have y3 : ((N : Int) == 0) = false := by simp; omega
              rcases Nat.eq_zero_or_pos Z.l.length with hz | hz
              · have HN := Go.Lib.hid (show pars o l = thenO (caps ⟨N, o2.hold, o2.ri, true⟩ lz) (fun o3 => pars o3 lr) from by
                  rcases hfg with ⟨e4, e, _⟩ | ⟨_, e | e⟩
                  · rw [HI2.out.1, HC.out, if_pos rfl, if_pos ⟨by omega, by rw [← e]; exact hN0⟩, e]
                  · exact absurd e hN0
                  · omega)
                have zz : ((Z.l.length : Nat) : Int) = 0 := by rw [hz]; rfl
                simp only [zz] at CL3
                clear hN0 hfg hDL hz zz
                go_wp2_with (first
                  | (have h := I1.out; go_at_call 34; first | (refine (CL2.out).mono ?_; rintro e q1 ⟨rfl, hb⟩; have I2 := Go.Lib.hid (h.below hb); clear hb h I1) | (trace "FELL L2"; trace_state; fail_if_success skip))
                  | (have h := I2.out; go_at_call 43; first | (refine (CX2.out _ h.ls h.lt.2.2).mono ?_; rintro e q2 ⟨b3, rfl, hb3, hV, hR, ho⟩; have I3 := Go.Lib.hid (VaSt.mk (z := ⟨D, false⟩) (h.read (z := ⟨lz, false⟩) hR ho) (R_base hV h.lt.2.2)); clear hb3 hV hR ho h I2) | (trace "FELL N2"; trace_state; fail_if_success skip))
                  | (have h := I3.out; go_at_call 32; first | (refine (CB2.out _ h.ins.ls).mono ?_; rintro e q3 ⟨rfl, hb⟩; have I4 := Go.Lib.hid (h.below hb); clear hb h I3; obtain ⟨c0, c1, c2, c3⟩ := I4.out.ins.pr.bo.cells; have fo := I4.out.ins.pr.bo.free; have I5 := Go.Lib.hid I4.out.set3) | (trace "FELL B2"; trace_state; fail_if_success skip))
                  | (have h := I5.out; go_at_call 31; first | (refine (CU2.out _ _ _ h.vl).mono ?_; rintro e q4 ⟨rfl, hR, ho⟩; have I6 := Go.Lib.hid (h.read (u := Z) hR ho); clear hR ho h I5 I4 c0 c1 c2 c3 fo; obtain ⟨c0, c1, c2, c3⟩ := I6.out.ins.pr.bo.cells; have fo := I6.out.ins.pr.bo.free; have I7 := Go.Lib.hid (I6.out.set0 N); obtain ⟨d0, d1, d2, d3⟩ := I7.out.ins.pr.bo.cells) | (trace "FELL U"; trace_state; fail_if_success skip))
                  | (have h := I7.out; go_at_call 34; first | (refine (CL3.out _ _ _ h.vl).mono ?_; rintro e q5 ⟨rfl, hb⟩; have I8 := Go.Lib.hid (h.below hb); clear hb h) | (trace "FELL L3"; trace_state; fail_if_success skip)))
                go_roundw
                case rel => exact ⟨lz, _, Go.Lib.hid ⟨HN.out, HSZ.out⟩, Go.Lib.hid I8.out.ins⟩
                case measure =>
                  have e1 := R_rlen I8.out.ins.ls
                  have e2 := HM2.out
                  have e3 := HLZ.out
                  rw [e1, e2]
                  exact e3
              · have HD := Go.Lib.hid (show pars o l = .inl 0 from by
                  have hno : ¬ (m = 4 ∧ val D ≠ 0) := by
                    rintro ⟨e4, ev⟩
                    rcases hfg with ⟨_, _, e⟩ | ⟨e, _⟩
                    · omega
                    · omega
                  rw [HI2.out.1, HC.out, if_pos rfl, if_neg hno]; rfl)
                have zz : (0 : Int) < (Z.l.length : Int) := by omega
                generalize Z.l.length = L3 at CL3 zz
                clear hN0 hfg hDL hz
                go_wp2_with (first
                  | (have h := I1.out; go_at_call 34; first | (refine (CL2.out).mono ?_; rintro e q1 ⟨rfl, hb⟩; have I2 := Go.Lib.hid (h.below hb); clear hb h I1) | (trace "FELL L2"; trace_state; fail_if_success skip))
                  | (have h := I2.out; go_at_call 43; first | (refine (CX2.out _ h.ls h.lt.2.2).mono ?_; rintro e q2 ⟨b3, rfl, hb3, hV, hR, ho⟩; have I3 := Go.Lib.hid (VaSt.mk (z := ⟨D, false⟩) (h.read (z := ⟨lz, false⟩) hR ho) (R_base hV h.lt.2.2)); clear hb3 hV hR ho h I2) | (trace "FELL N2"; trace_state; fail_if_success skip))
                  | (have h := I3.out; go_at_call 32; first | (refine (CB2.out _ h.ins.ls).mono ?_; rintro e q3 ⟨rfl, hb⟩; have I4 := Go.Lib.hid (h.below hb); clear hb h I3; obtain ⟨c0, c1, c2, c3⟩ := I4.out.ins.pr.bo.cells; have fo := I4.out.ins.pr.bo.free; have I5 := Go.Lib.hid I4.out.set3) | (trace "FELL B2"; trace_state; fail_if_success skip))
                  | (have h := I5.out; go_at_call 31; first | (refine (CU2.out _ _ _ h.vl).mono ?_; rintro e q4 ⟨rfl, hR, ho⟩; have I6 := Go.Lib.hid (h.read (u := Z) hR ho); clear hR ho h I5 I4 c0 c1 c2 c3 fo; obtain ⟨c0, c1, c2, c3⟩ := I6.out.ins.pr.bo.cells; have fo := I6.out.ins.pr.bo.free; have I7 := Go.Lib.hid (I6.out.set0 N); obtain ⟨d0, d1, d2, d3⟩ := I7.out.ins.pr.bo.cells) | (trace "FELL U"; trace_state; fail_if_success skip))
                  | (have h := I7.out; go_at_call 34; first | (refine (CL3.out _ _ _ h.vl).mono ?_; rintro e q5 ⟨rfl, hb⟩; have I8 := Go.Lib.hid (h.below hb); clear hb h) | (trace "FELL L3"; trace_state; fail_if_success skip)))
                go_step3
                refine ⟨rfl, ?_⟩
                go_wp2_with (have h := I8.out; go_at_call 33; first | (refine (CF.out _ _ _ _ _).mono ?_; rintro e z ⟨rfl, hb⟩; have SZ := Go.Lib.hid (h.ins.pr.below hb); clear hb h; obtain ⟨f0, f1, f2⟩ := SZ.out.rs.cells; have fr := SZ.out.rs.free) | (trace "FELL F I8"; trace_state; fail_if_success skip))
                rw [Exit.noGoto_ret]
                (try simp only [Exit.inBlock, Exit.then])
                obtain ⟨r0, r1, r2⟩ := (SZ.out.rs.laid (.int .i64 2) (.int .i64 0) (.slice none 0 0)).cells
                unfold three at r0 r1 r2
                refine bodyPost_ret (v := .agg #[.int .i64 2, .int .i64 0, .slice none 0 0]) (by simp [results, Try.results35, go_sem, r0, r1, r2]) rfl ?_
                obtain ⟨k1, k2⟩ := SZ.out.fin (.int .i64 2) (.int .i64 0) (.slice none 0 0)
                exact ⟨k1, .inr ⟨0, HD.out, .inl rfl, rfl⟩⟩
            · have y2 : ((t : Int) != 65) = true := by simp; omega
              have HN := Go.Lib.hid (show pars o l = thenO (caps o2 lz) (fun o3 => pars o3 lr) from by rw [HI2.out.1, HC.out, if_neg ht])
              clear ht hDL
              go_wp2_with (first
                | (have h := I1.out; go_at_call 34; first | (refine (CL2.out).mono ?_; rintro e q1 ⟨rfl, hb⟩; have I2 := Go.Lib.hid (h.below hb); clear hb h I1) | (trace "FELL L2"; trace_state; fail_if_success skip))
                | (have h := I2.out; go_at_call 43; first | (refine (CX2.out _ h.ls h.lt.2.2).mono ?_; rintro e q2 ⟨b3, rfl, hb3, hV, hR, ho⟩; have I3 := Go.Lib.hid (VaSt.mk (z := ⟨D, false⟩) (h.read (z := ⟨lz, false⟩) hR ho) (R_base hV h.lt.2.2)); clear hb3 hV hR ho h I2) | (trace "FELL N2"; trace_state; fail_if_success skip))
                | (have h := I3.out; go_at_call 32; first | (refine (CB2.out _ h.ins.ls).mono ?_; rintro e q3 ⟨rfl, hb⟩; have I4 := Go.Lib.hid (h.below hb); clear hb h I3) | (trace "FELL B2"; trace_state; fail_if_success skip)))
              go_roundw
              case rel => exact ⟨lz, o2, Go.Lib.hid ⟨HN.out, HSZ.out⟩, Go.Lib.hid I4.out.ins⟩
              case measure =>
                have e1 := R_rlen I4.out.ins.ls
                have e2 := HM2.out
                have e3 := HLZ.out
                rw [e1, e2]
                exact e3
      · have y2 : ((t : Int) != 2) = true := by simp; omega
        have HD := Go.Lib.hid (show pars o l = .inl 4 from by rw [HP.out, if_neg ht])
        clear ht
        go_wp2_with (first
          | (go_at_call 34; first | (refine (CLX.out).mono ?_; rintro e z ⟨rfl, hb⟩; have S2 := Go.Lib.hid (S1.out.below hb); clear hb) | (trace "FELL L"; trace_state; fail_if_success skip))
          | (have h := S2.out; go_at_call 43; first | (refine (CX.out _ h.rd (Nat.le_trans h.ge.1 h.on.size)).mono ?_; rintro e z ⟨b2, rfl, hb2, hV, hR, ho⟩; have hsz := h.rs.lt; have S3 := Go.Lib.hid (And.intro (h.read (y := ⟨lr, false⟩) hR ho) (R_base hV (show w.heap.size + 1 ≤ _ from hsz))); clear hb2 hV hR ho h S2 hsz) | (trace "FELL N"; trace_state; fail_if_success skip))
          | (have h := S3.out; go_at_call 32; first | (refine (CBX.out _ h.1.rd).mono ?_; rintro e z2 ⟨rfl, hb⟩; have S4 := Go.Lib.hid (InSt.start (y := ⟨ll, false⟩) (h.1.below hb) (h.2.below hb)); clear hb h S3) | (trace "FELL B"; trace_state; fail_if_success skip))
          | (have h := S4.out; go_at_call 33; first | (refine (CF.out _ _ _ _ _).mono ?_; rintro e z ⟨rfl, hb⟩; have SZ := Go.Lib.hid (h.pr.below hb); clear hb h; obtain ⟨f0, f1, f2⟩ := SZ.out.rs.cells; have fr := SZ.out.rs.free) | (trace "FELL F S4"; trace_state; fail_if_success skip)))
        rw [jump_ret]
        (try simp only [Exit.inBlock, Exit.then])
        obtain ⟨r0, r1, r2⟩ := (SZ.out.rs.laid (.int .i64 2) (.int .i64 4) (.slice none 0 0)).cells
        unfold three at r0 r1 r2
        refine bodyPost_ret (v := .agg #[.int .i64 2, .int .i64 4, .slice none 0 0]) (by simp [results, Try.results35, go_sem, r0, r1, r2]) rfl ?_
        obtain ⟨k1, k2⟩ := SZ.out.fin (.int .i64 2) (.int .i64 4) (.slice none 0 0)
        exact ⟨k1, .inr ⟨4, HD.out, .inr rfl, rfl⟩⟩
end Go.Proofs.Ytkkfnpacejdlnaa.Opn
