/- The program's Decode of an Open. -/
import Derived.Test.YtkkfnpacejdlnaaOpnDec0
namespace Go.Proofs.Ytkkfnpacejdlnaa.Opn
open Go.RowKit Mem Oct Att

set_option maxRecDepth 100000 in
set_option maxHeartbeats 8000000 in
theorem decode_p (v : Value) (b : List Nat) (w : World) (hv : U8s w v b) (hl : b.length ≤ 400) : Calls Try.prog 11 #[v] w (DecF9 b w) := by
  obtain ⟨D1, D2, D3, D4⟩ := de_boxes w
  have HSb := Go.Lib.hid hv.2
  have CN := Go.Lib.hid (new_any v b _ (hv.keep D2.low) (by omega))
  have D0 := Go.Lib.hid (And.intro D1 (And.intro D2 (And.intro D3 D4)))
  have CF := Go.Lib.hid fault_any
  have CB := Go.Lib.hid bad_any
  obtain ⟨x0, h0⟩ : ∃ x, x = Rd.mk b false := ⟨_, rfl⟩
  obtain ⟨gv, hgv⟩ : ∃ n, n = x0.num 1 := ⟨_, rfl⟩
  obtain ⟨x1, h1⟩ : ∃ x, x = x0.go 1 := ⟨_, rfl⟩
  have HS0 := Go.Lib.hid (show Small x0.l from by rw [h0]; exact HSb.out)
  obtain ⟨na, hna⟩ : ∃ n, n = x1.num 2 := ⟨_, rfl⟩
  obtain ⟨x2, h2⟩ : ∃ x, x = x1.go 2 := ⟨_, rfl⟩
  have HS1 := Go.Lib.hid (show Small x1.l from by rw [h1]; exact Rd.small HS0.out _)
  obtain ⟨nh, hnh⟩ : ∃ n, n = x2.num 2 := ⟨_, rfl⟩
  obtain ⟨x3, h3⟩ : ∃ x, x = x2.go 2 := ⟨_, rfl⟩
  have HS2 := Go.Lib.hid (show Small x2.l from by rw [h2]; exact Rd.small HS1.out _)
  obtain ⟨nr, hnr⟩ : ∃ n, n = x3.num 4 := ⟨_, rfl⟩
  obtain ⟨x4, h4⟩ : ∃ x, x = x3.go 4 := ⟨_, rfl⟩
  have HS3 := Go.Lib.hid (show Small x3.l from by rw [h3]; exact Rd.small HS2.out _)
  obtain ⟨nz, hnz⟩ : ∃ n, n = x4.num 1 := ⟨_, rfl⟩
  obtain ⟨x5, h5⟩ : ∃ x, x = x4.go 1 := ⟨_, rfl⟩
  have HS4 := Go.Lib.hid (show Small x4.l from by rw [h4]; exact Rd.small HS3.out _)
  have C1 := Go.Lib.hid (fun n br W (h : R W (w.heap.size + 4) n (.pointer (some ⟨br, 0, none⟩)) x0.l x0.b (fun k => k = br)) => show Calls Try.prog 29 #[.pointer (some ⟨br, 0, none⟩)] W (fun e w' => e = .returned (.int .i64 gv) ∧ R w' (w.heap.size + 4) n (.pointer (some ⟨br, 0, none⟩)) x1.l x1.b (fun k => k = br) ∧ Only (fun k => k = br) W w') from by
    rw [hgv, h1]
    exact u8_any _ _ n x0.l x0.b _ W HS0.out h)
  have C2 := Go.Lib.hid (fun n br W (h : R W (w.heap.size + 4) n (.pointer (some ⟨br, 0, none⟩)) x1.l x1.b (fun k => k = br)) => show Calls Try.prog 30 #[.pointer (some ⟨br, 0, none⟩)] W (fun e w' => e = .returned (.int .i64 na) ∧ R w' (w.heap.size + 4) n (.pointer (some ⟨br, 0, none⟩)) x2.l x2.b (fun k => k = br) ∧ Only (fun k => k = br) W w') from by
    rw [hna, h2]
    exact u16_any _ _ n x1.l x1.b _ W HS1.out h)
  have C3 := Go.Lib.hid (fun n br W (h : R W (w.heap.size + 4) n (.pointer (some ⟨br, 0, none⟩)) x2.l x2.b (fun k => k = br)) => show Calls Try.prog 30 #[.pointer (some ⟨br, 0, none⟩)] W (fun e w' => e = .returned (.int .i64 nh) ∧ R w' (w.heap.size + 4) n (.pointer (some ⟨br, 0, none⟩)) x3.l x3.b (fun k => k = br) ∧ Only (fun k => k = br) W w') from by
    rw [hnh, h3]
    exact u16_any _ _ n x2.l x2.b _ W HS2.out h)
  have C4 := Go.Lib.hid (fun n br W (h : R W (w.heap.size + 4) n (.pointer (some ⟨br, 0, none⟩)) x3.l x3.b (fun k => k = br)) => show Calls Try.prog 31 #[.pointer (some ⟨br, 0, none⟩)] W (fun e w' => e = .returned (.int .u32 nr) ∧ R w' (w.heap.size + 4) n (.pointer (some ⟨br, 0, none⟩)) x4.l x4.b (fun k => k = br) ∧ Only (fun k => k = br) W w') from by
    rw [hnr, h4]
    exact u32_any _ _ n x3.l x3.b _ W HS3.out h)
  have C5 := Go.Lib.hid (fun n br W (h : R W (w.heap.size + 4) n (.pointer (some ⟨br, 0, none⟩)) x4.l x4.b (fun k => k = br)) => show Calls Try.prog 29 #[.pointer (some ⟨br, 0, none⟩)] W (fun e w' => e = .returned (.int .i64 nz) ∧ R w' (w.heap.size + 4) n (.pointer (some ⟨br, 0, none⟩)) x5.l x5.b (fun k => k = br) ∧ Only (fun k => k = br) W w') from by
    rw [hnz, h5]
    exact u8_any _ _ n x4.l x4.b _ W HS4.out h)
  have hna4 : na < 65536 := by rw [hna]; exact num_lt HS1.out 2
  have wa : IntKind.u32.wrap (na : Int) = (na : Int) := by rw [IntKind.wrap_u32]; omega
  have CHo := Go.Lib.hid (fun W => pholds_any (nh : Int) W)
  have HX := Go.Lib.hid (show x0 = ⟨b, false⟩ ∧ gv = x0.num 1 ∧ x1 = x0.go 1 ∧ na = x1.num 2 ∧ x2 = x1.go 2 ∧ nh = x2.num 2 ∧ x3 = x2.go 2 ∧ nr = x3.num 4 ∧ x4 = x3.go 4 ∧ nz = x4.num 1 ∧ x5 = x4.go 1 from ⟨h0, hgv, h1, hna, h2, hnh, h3, hnr, h4, hnz, h5⟩)
  clear D1 D2 D3 D4 hv h0 hgv h1 hna h2 hnh h3 hnr h4 hnz h5
  go_enter Try.func11, Try.ntmps11
  go_upto_block 0 with (first
    | (have h := D0.out; go_at_call 28; first | (refine (CN.out).mono ?_; rintro e z0 ⟨br, rfl, hR, hb⟩; rw [h.1] at hR; have T0 := Go.Lib.hid (DeSt.mk (x := x0) (o := zeroO) (h.2.1.below hb) (h.2.2.1.keep hb) (h.2.2.2.keep hb) (by rw [HX.out.1]; exact hR)); clear hR hb h D0) | (trace "FELL New"; trace_state; fail_if_success skip))
    | (have h := T0.out; go_at_call 29; first | (refine (C1.out _ _ _ h.rd).mono ?_; rintro e z ⟨rfl, hR, ho⟩; have T1 := Go.Lib.hid (h.read (y := x1) hR ho); clear hR ho h T0; skip) | (trace "FELL U8 T0"; trace_state; fail_if_success skip))
    | (have h := T1.out; go_at_call 30; first | (refine (C2.out _ _ _ h.rd).mono ?_; rintro e z ⟨rfl, hR, ho⟩; have T2 := Go.Lib.hid (h.read (y := x2) hR ho); clear hR ho h T1; (try clear c0 c1 c2 c3 fo); obtain ⟨c0, c1, c2, c3⟩ := T2.out.bo.cells; have fo := T2.out.bo.free; have V2 := Go.Lib.hid (T2.out.set0 na)) | (trace "FELL U16 T1"; trace_state; fail_if_success skip))
    | (have h := V2.out; go_at_call 30; first | (refine (C3.out _ _ _ h.rd).mono ?_; rintro e z ⟨rfl, hR, ho⟩; have T3 := Go.Lib.hid (h.read (y := x3) hR ho); clear hR ho h V2; (try clear c0 c1 c2 c3 fo); obtain ⟨c0, c1, c2, c3⟩ := T3.out.bo.cells; have fo := T3.out.bo.free; have V3 := Go.Lib.hid (T3.out.set1 nh)) | (trace "FELL U16 V2"; trace_state; fail_if_success skip))
    | (have h := V3.out; go_at_call 31; first | (refine (C4.out _ _ _ h.rd).mono ?_; rintro e z ⟨rfl, hR, ho⟩; have T4 := Go.Lib.hid (h.read (y := x4) hR ho); clear hR ho h V3; (try clear c0 c1 c2 c3 fo); obtain ⟨c0, c1, c2, c3⟩ := T4.out.bo.cells; have fo := T4.out.bo.free; have V4 := Go.Lib.hid (T4.out.set2 nr)) | (trace "FELL U32 V3"; trace_state; fail_if_success skip))
    | (have h := V4.out; go_at_call 29; first | (refine (C5.out _ _ _ h.rd).mono ?_; rintro e z ⟨rfl, hR, ho⟩; have T5 := Go.Lib.hid (h.read (y := x5) hR ho); clear hR ho h V4; (try clear c0 c1 c2 c3 fo); obtain ⟨c0, c1, c2, c3⟩ := T5.out.bo.cells; have fo := T5.out.bo.free) | (trace "FELL U8 V4"; trace_state; fail_if_success skip)))
  go_cut [] (fun wx => Hid (EndO b w wx))
  case first =>
    obtain ⟨p1, p2⟩ := rd_head b
    have HDC := Go.Lib.hid (decO_is b)
    obtain ⟨e0, eg, e1, ea, e2, eh, e3, er, e4, ez, e5⟩ := HX.out
    rw [e0] at eg e1
    rw [e1] at ea e2
    rw [e2] at eh e3
    rw [e3] at er e4
    rw [e4] at ez e5
    rw [← e5, ← eg, ← ea, ← eh, ← er, ← ez] at p2
    rw [← e5] at p1
    clear e0 eg e1 ea e2 eh e3 er e4 ez e5 HX
    clear C1 C2 C3 C4 C5 HS0 HS1 HS2 HS3
    by_cases hl10 : b.length < 10
    · have HD := Go.Lib.hid (show decO b = .inl 0 from by rw [HDC.out, if_pos hl10])
      have hb5 := p1 hl10
      have CBx := Go.Lib.hid (fun W (h : R W (w.heap.size + 4) z0.heap.size (.pointer (some ⟨br, 0, none⟩)) x5.l x5.b (fun k => k = br)) => show Calls Try.prog 32 #[.pointer (some ⟨br, 0, none⟩)] W (Tells (.bool true) W) from by
        have h2 := CB.out _ _ _ _ _ _ W h
        rw [hb5] at h2
        exact h2)
      clear p1 p2 hb5 hl10 hl
      go_wp2_with (first
        | (have h := T5.out; go_at_call 32; first | (refine (CBx.out _ h.rd).mono ?_; rintro e zb ⟨rfl, hb⟩; have T6 := Go.Lib.hid (h.below hb); clear hb h T5; (try clear c0 c1 c2 c3 fo); obtain ⟨c0, c1, c2, c3⟩ := T6.out.bo.cells; have fo := T6.out.bo.free) | (trace "FELL B"; trace_state; fail_if_success skip))
        | (have h := T6.out; go_at_call 33; first | (refine (CF.out _ _ _ _ _).mono ?_; rintro e zf ⟨rfl, hb⟩; have T7 := Go.Lib.hid (h.below hb); clear hb h T6; obtain ⟨m0, m1, m2⟩ := T7.out.bn.cells; have fr := T7.out.bn.free) | (trace "FELL F"; trace_state; fail_if_success skip)))
      go_meet
      exact Go.Lib.hid (end_bad T7.out.r0 T7.out.bn HD.out (by decide) rfl (by decide))
    obtain ⟨e5, hb0, hH, hb9⟩ := p2 (by omega)
    clear p1 p2
    have CBx := Go.Lib.hid (fun W (h : R W (w.heap.size + 4) z0.heap.size (.pointer (some ⟨br, 0, none⟩)) x5.l x5.b (fun k => k = br)) => show Calls Try.prog 32 #[.pointer (some ⟨br, 0, none⟩)] W (Tells (.bool false) W) from by
      have h2 := CB.out _ _ _ _ _ _ W h
      rw [e5] at h2
      exact h2)
    rw [if_neg hl10, hH, hb0, hb9] at HDC
    dsimp only at HDC
    by_cases g0 : gv = 4
    case neg =>
      have y0 : ((gv : Int) != 4) = true := by simp; omega
      have HD := Go.Lib.hid (show decO b = .inl 1 from by rw [HDC.out, if_pos (by simpa using g0)])
      clear g0 hb0 hb9 hH e5 hl10 hl
      go_wp2_with (first
        | (have h := T5.out; go_at_call 32; first | (refine (CBx.out _ h.rd).mono ?_; rintro e zb ⟨rfl, hb⟩; have T6 := Go.Lib.hid (h.below hb); clear hb h T5; (try clear c0 c1 c2 c3 fo); obtain ⟨c0, c1, c2, c3⟩ := T6.out.bo.cells; have fo := T6.out.bo.free) | (trace "FELL B"; trace_state; fail_if_success skip))
        | (have h := T6.out; go_at_call 33; first | (refine (CF.out _ _ _ _ _).mono ?_; rintro e zf ⟨rfl, hb⟩; have hb2 : Below zb.heap.size zb (zb.alloc (.cells #[.int .u8 0, .int .u8 4] 5)) := (Below.refl _ _).alloc (Nat.le_refl _) _; have T7 := Go.Lib.hid ((h.below hb2).below hb); have U7 := Go.Lib.hid ((lit8 zb [0, 4] #[.int .u8 0, .int .u8 4] 2 (by unfold Small; decide) rfl rfl (by decide)).keep hb); clear hb hb2 h T6; obtain ⟨m0, m1, m2⟩ := T7.out.bn.cells; have fr := T7.out.bn.free) | (trace "FELL F1"; trace_state; fail_if_success skip)))
      go_meet
      exact Go.Lib.hid (end_one T7.out.r0 T7.out.bn HD.out U7.out)
    subst g0
    have y0 : (((4 : Nat) : Int) != 4) = false := by decide
    rw [if_neg (by simp)] at HDC
    by_cases g1 : na = 0
    · have y1 : ((na : Int) == 0) = true := by simp [g1]
      have HD := Go.Lib.hid (show decO b = .inl 2 from by rw [HDC.out, if_pos g1])
      clear g1 hb0 hb9 hH e5 hl10 hl
      go_wp2_with (first
        | (have h := T5.out; go_at_call 32; first | (refine (CBx.out _ h.rd).mono ?_; rintro e zb ⟨rfl, hb⟩; have T6 := Go.Lib.hid (h.below hb); clear hb h T5; (try clear c0 c1 c2 c3 fo); obtain ⟨c0, c1, c2, c3⟩ := T6.out.bo.cells; have fo := T6.out.bo.free) | (trace "FELL B"; trace_state; fail_if_success skip))
        | (have h := T6.out; go_at_call 33; first | (refine (CF.out _ _ _ _ _).mono ?_; rintro e zf ⟨rfl, hb⟩; have T7 := Go.Lib.hid (h.below hb); clear hb h T6; obtain ⟨m0, m1, m2⟩ := T7.out.bn.cells; have fr := T7.out.bn.free) | (trace "FELL F"; trace_state; fail_if_success skip)))
      go_meet
      exact Go.Lib.hid (end_bad T7.out.r0 T7.out.bn HD.out (by decide) rfl (by decide))
    have y1 : ((na : Int) == 0) = false := by simp; omega
    rw [if_neg g1] at HDC
    clear g1
    cases hh : holdsB (nh : Int) with
    | false =>
      rw [hh] at CHo
      have HD := Go.Lib.hid (show decO b = .inl 6 from by rw [HDC.out, if_pos hh])
      clear hh hb0 hb9 hH e5 hl10 hl
      go_wp2_with (first
        | (have h := T5.out; go_at_call 32; first | (refine (CBx.out _ h.rd).mono ?_; rintro e zb ⟨rfl, hb⟩; have T6 := Go.Lib.hid (h.below hb); clear hb h T5; (try clear c0 c1 c2 c3 fo); obtain ⟨c0, c1, c2, c3⟩ := T6.out.bo.cells; have fo := T6.out.bo.free) | (trace "FELL B"; trace_state; fail_if_success skip))
        | (have h := T6.out; go_at_call 26; first | (refine (CHo.out _).mono ?_; rintro e zh ⟨rfl, hb⟩; replace T6 := Go.Lib.hid (h.below hb); clear hb h; (try clear c0 c1 c2 c3 fo); obtain ⟨c0, c1, c2, c3⟩ := T6.out.bo.cells; have fo := T6.out.bo.free) | (trace "FELL H"; trace_state; fail_if_success skip))
        | (have h := T6.out; go_at_call 33; first | (refine (CF.out _ _ _ _ _).mono ?_; rintro e zf ⟨rfl, hb⟩; have T7 := Go.Lib.hid (h.below hb); clear hb h T6; obtain ⟨m0, m1, m2⟩ := T7.out.bn.cells; have fr := T7.out.bn.free) | (trace "FELL F"; trace_state; fail_if_success skip)))
      go_meet
      exact Go.Lib.hid (end_bad T7.out.r0 T7.out.bn HD.out (by decide) rfl (by decide))
    | true =>
    rw [hh] at CHo
    rw [if_neg (by rw [hh]; decide)] at HDC
    clear hh
    by_cases g3 : nr = 0
    · have y3 : ((nr : Int) == 0) = true := by simp [g3]
      have HD := Go.Lib.hid (show decO b = .inl 3 from by rw [HDC.out, if_pos g3])
      clear g3 hb0 hb9 hH e5 hl10 hl
      go_wp2_with (first
        | (have h := T5.out; go_at_call 32; first | (refine (CBx.out _ h.rd).mono ?_; rintro e zb ⟨rfl, hb⟩; have T6 := Go.Lib.hid (h.below hb); clear hb h T5; (try clear c0 c1 c2 c3 fo); obtain ⟨c0, c1, c2, c3⟩ := T6.out.bo.cells; have fo := T6.out.bo.free) | (trace "FELL B"; trace_state; fail_if_success skip))
        | (have h := T6.out; go_at_call 26; first | (refine (CHo.out _).mono ?_; rintro e zh ⟨rfl, hb⟩; replace T6 := Go.Lib.hid (h.below hb); clear hb h; (try clear c0 c1 c2 c3 fo); obtain ⟨c0, c1, c2, c3⟩ := T6.out.bo.cells; have fo := T6.out.bo.free) | (trace "FELL H"; trace_state; fail_if_success skip))
        | (have h := T6.out; go_at_call 33; first | (refine (CF.out _ _ _ _ _).mono ?_; rintro e zf ⟨rfl, hb⟩; have T7 := Go.Lib.hid (h.below hb); clear hb h T6; obtain ⟨m0, m1, m2⟩ := T7.out.bn.cells; have fr := T7.out.bn.free) | (trace "FELL F"; trace_state; fail_if_success skip)))
      go_meet
      exact Go.Lib.hid (end_bad T7.out.r0 T7.out.bn HD.out (by decide) rfl (by decide))
    have y3 : ((nr : Int) == 0) = false := by simp; omega
    rw [if_neg g3] at HDC
    clear g3
    have CLx := Go.Lib.hid (fun W (h : R W (w.heap.size + 4) z0.heap.size (.pointer (some ⟨br, 0, none⟩)) x5.l x5.b (fun k => k = br)) => show Calls Try.prog 34 #[.pointer (some ⟨br, 0, none⟩)] W (Tells (.int .i64 ((b.length - 10 : Nat) : Int)) W) from by
      have h2 := left_any _ _ _ _ _ _ W h
      rw [e5] at h2
      rw [show (Rd.mk (b.drop 10) false).l.length = b.length - 10 from List.length_drop] at h2
      exact h2)
    by_cases g4 : nz = b.length - 10
    case neg =>
      obtain ⟨L, hL⟩ : ∃ L, L = b.length - 10 := ⟨_, rfl⟩
      rw [← hL] at CLx g4
      have y4 : ((nz : Int) != (L : Int)) = true := by simp; omega
      have HD := Go.Lib.hid (show decO b = .inl 0 from by rw [HDC.out, if_pos (by rw [← hL]; simpa using g4)])
      clear g4 hb0 hb9 hH e5 hl10 hl hL
      go_wp2_with (first
        | (have h := T5.out; go_at_call 32; first | (refine (CBx.out _ h.rd).mono ?_; rintro e zb ⟨rfl, hb⟩; have T6 := Go.Lib.hid (h.below hb); clear hb h T5; (try clear c0 c1 c2 c3 fo); obtain ⟨c0, c1, c2, c3⟩ := T6.out.bo.cells; have fo := T6.out.bo.free) | (trace "FELL B"; trace_state; fail_if_success skip))
        | (have h := T6.out; go_at_call 26; first | (refine (CHo.out _).mono ?_; rintro e zh ⟨rfl, hb⟩; replace T6 := Go.Lib.hid (h.below hb); clear hb h; (try clear c0 c1 c2 c3 fo); obtain ⟨c0, c1, c2, c3⟩ := T6.out.bo.cells; have fo := T6.out.bo.free) | (trace "FELL H"; trace_state; fail_if_success skip))
        | (have h := T6.out; go_at_call 34; first | (refine (CLx.out _ h.rd).mono ?_; rintro e zl ⟨rfl, hb⟩; replace T6 := Go.Lib.hid (h.below hb); clear hb h; (try clear c0 c1 c2 c3 fo); obtain ⟨c0, c1, c2, c3⟩ := T6.out.bo.cells; have fo := T6.out.bo.free) | (trace "FELL L"; trace_state; fail_if_success skip))
        | (have h := T6.out; go_at_call 33; first | (refine (CF.out _ _ _ _ _).mono ?_; rintro e zf ⟨rfl, hb⟩; have T7 := Go.Lib.hid (h.below hb); clear hb h T6; obtain ⟨m0, m1, m2⟩ := T7.out.bn.cells; have fr := T7.out.bn.free) | (trace "FELL F"; trace_state; fail_if_success skip)))
      go_meet
      exact Go.Lib.hid (end_bad T7.out.r0 T7.out.bn HD.out (by decide) rfl (by decide))
    rw [← g4] at CLx
    have y4 : ((nz : Int) != (nz : Int)) = false := by simp
    rw [if_neg (by rw [← g4]; simp)] at HDC
    have HS10 := Go.Lib.hid (show Small (b.drop 10) from HSb.out.drop 10)
    clear g4 hb0 hb9 hH hl10 hl
    have CR := Go.Lib.hid (fun W (h : DeSt w z0.heap.size br x5 ⟨na, (nh : Nat), nr, false⟩ W) => read_any (w.heap.size + 4) z0.heap.size br (w.heap.size + 1 + 1) (b.drop 10) ⟨na, (nh : Nat), nr, false⟩ W HS10.out (by have h2 := h.rd; rw [e5] at h2; exact h2) h.bo (R_lt h.rd) (by have := h.ge; omega))
    clear e5
    cases hp : pars ⟨na, (nh : Nat), nr, false⟩ (b.drop 10) with
    | inr o2 =>
      have HD := Go.Lib.hid (show decO b = .inr o2 from HDC.out.trans hp)
      have CRx := Go.Lib.hid (fun W (h : DeSt w z0.heap.size br x5 ⟨na, (nh : Nat), nr, false⟩ W) => show Calls Try.prog 35 #[.pointer (some ⟨br, 0, none⟩), .pointer (some ⟨w.heap.size + 1 + 1, 0, none⟩)] W (fun e w' => e = .returned (.agg #[.int .i64 0, .int .i64 0, .slice none 0 0]) ∧ Only (fun k => k = br ∨ k = w.heap.size + 1 + 1) W w' ∧ Box4 w' (w.heap.size + 1 + 1) 24 (.int .u32 o2.an) (.int .i64 o2.hold) (.int .u32 o2.ri) (.bool o2.four)) from (CR.out W h).mono fun e w' hr => by
        obtain ⟨ho, ⟨o3, k1, k2, k3⟩ | ⟨s, k1, _⟩⟩ := hr
        · rw [hp] at k1
          injection k1 with k1
          subst k1
          exact ⟨k2, ho, k3⟩
        · rw [hp] at k1
          cases k1)
      clear hp CR
      go_wp2_with (first
        | (have h := T5.out; go_at_call 32; first | (refine (CBx.out _ h.rd).mono ?_; rintro e zb ⟨rfl, hb⟩; have T6 := Go.Lib.hid (h.below hb); clear hb h T5; (try clear c0 c1 c2 c3 fo); obtain ⟨c0, c1, c2, c3⟩ := T6.out.bo.cells; have fo := T6.out.bo.free) | (trace "FELL B"; trace_state; fail_if_success skip))
        | (have h := T6.out; go_at_call 26; first | (refine (CHo.out _).mono ?_; rintro e zh ⟨rfl, hb⟩; replace T6 := Go.Lib.hid (h.below hb); clear hb h; (try clear c0 c1 c2 c3 fo); obtain ⟨c0, c1, c2, c3⟩ := T6.out.bo.cells; have fo := T6.out.bo.free) | (trace "FELL H"; trace_state; fail_if_success skip))
        | (have h := T6.out; go_at_call 34; first | (refine (CLx.out _ h.rd).mono ?_; rintro e zl ⟨rfl, hb⟩; replace T6 := Go.Lib.hid (h.below hb); clear hb h; (try clear c0 c1 c2 c3 fo); obtain ⟨c0, c1, c2, c3⟩ := T6.out.bo.cells; have fo := T6.out.bo.free) | (trace "FELL L"; trace_state; fail_if_success skip))
        | (have h := T6.out; go_at_call 35; first | (refine (CRx.out _ h).mono ?_; rintro e zr ⟨rfl, ho, hB⟩; have T7 := Go.Lib.hid (h.only ho); have V7 := Go.Lib.hid hB; clear ho hB h T6 c0 c1 c2 c3 fo; obtain ⟨m0, m1, m2⟩ := T7.out.2.cells; have fr := T7.out.2.free) | (trace "FELL R"; trace_state; fail_if_success skip)))
      go_meet
      exact Go.Lib.hid (end_ok T7.out.1 T7.out.2 HD.out V7.out)
    | inl s =>
      have HD := Go.Lib.hid (show decO b = .inl s from HDC.out.trans hp)
      have CRx := Go.Lib.hid (fun W (h : DeSt w z0.heap.size br x5 ⟨na, (nh : Nat), nr, false⟩ W) => show Calls Try.prog 35 #[.pointer (some ⟨br, 0, none⟩), .pointer (some ⟨w.heap.size + 1 + 1, 0, none⟩)] W (fun e w' => (s = 0 ∨ s = 4) ∧ e = .returned (.agg #[.int .i64 2, .int .i64 s, .slice none 0 0]) ∧ Only (fun k => k = br ∨ k = w.heap.size + 1 + 1) W w') from (CR.out W h).mono fun e w' hr => by
        obtain ⟨ho, ⟨o3, k1, _⟩ | ⟨s2, k1, k2, k3⟩⟩ := hr
        · rw [hp] at k1
          cases k1
        · rw [hp] at k1
          injection k1 with k1
          subst k1
          exact ⟨k2, k3, ho⟩)
      clear hp CR
      go_wp2_with (first
        | (have h := T5.out; go_at_call 32; first | (refine (CBx.out _ h.rd).mono ?_; rintro e zb ⟨rfl, hb⟩; have T6 := Go.Lib.hid (h.below hb); clear hb h T5; (try clear c0 c1 c2 c3 fo); obtain ⟨c0, c1, c2, c3⟩ := T6.out.bo.cells; have fo := T6.out.bo.free) | (trace "FELL B"; trace_state; fail_if_success skip))
        | (have h := T6.out; go_at_call 26; first | (refine (CHo.out _).mono ?_; rintro e zh ⟨rfl, hb⟩; replace T6 := Go.Lib.hid (h.below hb); clear hb h; (try clear c0 c1 c2 c3 fo); obtain ⟨c0, c1, c2, c3⟩ := T6.out.bo.cells; have fo := T6.out.bo.free) | (trace "FELL H"; trace_state; fail_if_success skip))
        | (have h := T6.out; go_at_call 34; first | (refine (CLx.out _ h.rd).mono ?_; rintro e zl ⟨rfl, hb⟩; replace T6 := Go.Lib.hid (h.below hb); clear hb h; (try clear c0 c1 c2 c3 fo); obtain ⟨c0, c1, c2, c3⟩ := T6.out.bo.cells; have fo := T6.out.bo.free) | (trace "FELL L"; trace_state; fail_if_success skip))
        | (have h := T6.out; go_at_call 35; first | (refine (CRx.out _ h).mono ?_; rintro e zr ⟨hs4, rfl, ho⟩; have S4 := Go.Lib.hid hs4; have T7 := Go.Lib.hid (h.only ho); clear hs4 ho h T6 c0 c1 c2 c3 fo; obtain ⟨m0, m1, m2⟩ := T7.out.2.cells; have fr := T7.out.2.free) | (trace "FELL R2"; trace_state; fail_if_success skip)))
      go_meet
      exact Go.Lib.hid (end_bad T7.out.1 T7.out.2 HD.out (by have := S4.out; omega) rfl (by have := S4.out; omega))
  case rest =>
  have SZ := hcut
  obtain ⟨h0, ⟨s, A, m, c, -, hd, hb, hn⟩ | ⟨o, hd, hb, hB⟩⟩ := hcut.out
  · have HD := Go.Lib.hid hd
    have HN := Go.Lib.hid hn
    have S0 := Go.Lib.hid h0
    have BN := Go.Lib.hid hb
    have LD := Go.Lib.hid (h0.below (Below.refl wc.heap.size wc).drew)
    have BD := Go.Lib.hid (hb.keep (Below.refl wc.heap.size wc).drew)
    clear h0 hd hb hn SZ hcut
    obtain ⟨f0, f1, f2, f3⟩ := S0.out.r4.cells
    have fr4 := S0.out.r4.free
    obtain ⟨f0', f1', f2', f3'⟩ := LD.out.r4.cells
    have fr4' := LD.out.r4.free
    obtain ⟨b0, b1, b2⟩ := BN.out.cells
    obtain ⟨b0', b1', b2'⟩ := BD.out.cells
    obtain ⟨m0, m1, m2⟩ := (S0.out.mid (.int .u32 0) (.int .i64 0) (.int .u32 0) (.bool false)).cells
    have fr3 := (S0.out.mid (.int .u32 0) (.int .i64 0) (.int .u32 0) (.bool false)).free
    unfold four at m0 m1 m2 fr3
    obtain ⟨m0', m1', m2'⟩ := (LD.out.mid (.int .u32 0) (.int .i64 0) (.int .u32 0) (.bool false)).cells
    have fr3' := (LD.out.mid (.int .u32 0) (.int .i64 0) (.int .u32 0) (.bool false)).free
    unfold four at m0' m1' m2' fr3'
    go_wp2
    go_region
    clear f0 f1 f2 f3 fr4 m0 m1 m2 fr3 f0' f1' f2' f3' fr4' m0' m1' m2' fr3' b0 b1 b2 b0' b1' b2'
    go_wp2
    (try simp only [Exit.inBlock, Exit.then])
    obtain ⟨k1, k2, -⟩ := S0.out.fin (.int .u32 0) (.int .i64 0) (.int .u32 0) (.bool false) (.int .i64 2) (.int .i64 s) (.slice A m c)
    obtain ⟨r0, r1, r2, r3⟩ := k1.cells
    obtain ⟨t0, t1, t2⟩ := k2.cells
    clear k1 k2
    unfold ends three four at r0 r1 r2 r3 t0 t1 t2
    refine bodyPost_ret (v := .tuple #[.agg #[.int .u32 0, .int .i64 0, .int .u32 0, .bool false], .agg #[.int .i64 2, .int .i64 s, .slice A m c]]) (by simp [results, Try.results11, go_sem, r0, r1, r2, r3, t0, t1, t2]) rfl ?_
    exact end_fin S0.out HD.out HN.out
  · have HD := Go.Lib.hid hd
    have S0 := Go.Lib.hid h0
    have BN := Go.Lib.hid hb
    have BO := Go.Lib.hid hB
    have LD := Go.Lib.hid (h0.below (Below.refl wc.heap.size wc).drew)
    have BD := Go.Lib.hid (hb.keep (Below.refl wc.heap.size wc).drew)
    have OD := Go.Lib.hid (hB.keep (Below.refl wc.heap.size wc).drew)
    clear h0 hd hb hB SZ hcut
    obtain ⟨f0, f1, f2, f3⟩ := S0.out.r4.cells
    have fr4 := S0.out.r4.free
    obtain ⟨f0', f1', f2', f3'⟩ := LD.out.r4.cells
    have fr4' := LD.out.r4.free
    obtain ⟨b0, b1, b2⟩ := BN.out.cells
    obtain ⟨b0', b1', b2'⟩ := BD.out.cells
    obtain ⟨o0, o1, o2, o3⟩ := BO.out.cells
    obtain ⟨o0', o1', o2', o3'⟩ := OD.out.cells
    obtain ⟨m0, m1, m2⟩ := (S0.out.mid (.int .u32 o.an) (.int .i64 o.hold) (.int .u32 o.ri) (.bool o.four)).cells
    have fr3 := (S0.out.mid (.int .u32 o.an) (.int .i64 o.hold) (.int .u32 o.ri) (.bool o.four)).free
    unfold four at m0 m1 m2 fr3
    obtain ⟨m0', m1', m2'⟩ := (LD.out.mid (.int .u32 o.an) (.int .i64 o.hold) (.int .u32 o.ri) (.bool o.four)).cells
    have fr3' := (LD.out.mid (.int .u32 o.an) (.int .i64 o.hold) (.int .u32 o.ri) (.bool o.four)).free
    unfold four at m0' m1' m2' fr3'
    go_wp2
    go_region
    clear f0 f1 f2 f3 fr4 m0 m1 m2 fr3 f0' f1' f2' f3' fr4' m0' m1' m2' fr3' b0 b1 b2 b0' b1' b2' o0 o1 o2 o3 o0' o1' o2' o3'
    go_wp2
    (try simp only [Exit.inBlock, Exit.then])
    obtain ⟨k1, k2, -⟩ := S0.out.fin (.int .u32 o.an) (.int .i64 o.hold) (.int .u32 o.ri) (.bool o.four) (.int .i64 0) (.int .i64 0) (.slice none 0 0)
    obtain ⟨r0, r1, r2, r3⟩ := k1.cells
    obtain ⟨t0, t1, t2⟩ := k2.cells
    clear k1 k2
    unfold ends three four at r0 r1 r2 r3 t0 t1 t2
    refine bodyPost_ret (v := .tuple #[.agg #[.int .u32 o.an, .int .i64 o.hold, .int .u32 o.ri, .bool o.four], .agg #[.int .i64 0, .int .i64 0, .slice none 0 0]]) (by simp [results, Try.results11, go_sem, r0, r1, r2, r3, t0, t1, t2]) rfl ?_
    exact end_good S0.out HD.out
end Go.Proofs.Ytkkfnpacejdlnaa.Opn
