/- The program's Decode of an Update. -/
import Derived.Test.YtlhdjdnflpilbaaGreatDoorG45
import Derived.Deep.DeepCutAuto
import Derived.Deep.RegionWith
namespace Go.Proofs.YtlhdjdnflpilbaaGreatDoor.Upd
open Go.RowKit Mem Segm Oct Att Seg PR
theorem note_apart {W W2 : World} {v : Value} {n : No} {B : Nat} (h : Note W v n) (hB : ∀ i k, W.cell? ⟨B, i, none⟩ ≠ some (.int .u8 k)) (hk : ∀ k, k ≠ B → W2.heap[k]? = W.heap[k]?) (hs : W.heap.size ≤ W2.heap.size) : Note W2 v n := by
  obtain ⟨h1, h2, vd, h3, h4⟩ := h
  exact ⟨h1, h2, vd, h3, u8_apart h4 hB hk hs⟩
set_option maxRecDepth 100000 in
set_option maxHeartbeats 16000000 in
theorem udec_any (v : Value) (b : List Nat) (w : World) (hv : U8s w v b) (hl : b.length ≤ 5000) (hSh : Shp w) : Calls Tryz.prog 14 #[v] w (DecU b w) := by
  obtain ⟨D1, D2⟩ := rdu_start w
  have HSb := Go.Lib.hid hv.2
  have CN := Go.Lib.hid (new_any v b _ (hv.keep D1.low) (by omega))
  have D0 := Go.Lib.hid (And.intro D1 D2)
  have CF := Go.Lib.hid ufault_any
  obtain ⟨x0, h0⟩ : ∃ x, x = Rd.mk b false := ⟨_, rfl⟩
  obtain ⟨n1, hn1⟩ : ∃ n, n = x0.num 2 := ⟨_, rfl⟩
  obtain ⟨x1, h1⟩ : ∃ x, x = x0.go 2 := ⟨_, rfl⟩
  obtain ⟨G, hG⟩ : ∃ g, g = got x1.l x1.b (n1 : Nat) := ⟨_, rfl⟩
  obtain ⟨x2, h2⟩ : ∃ x, x = x1.go (n1 : Nat) := ⟨_, rfl⟩
  obtain ⟨n2, hn2⟩ : ∃ n, n = x2.num 2 := ⟨_, rfl⟩
  obtain ⟨x3, h3⟩ : ∃ x, x = x2.go 2 := ⟨_, rfl⟩
  obtain ⟨Q, hQ⟩ : ∃ g, g = got x3.l x3.b (n2 : Nat) := ⟨_, rfl⟩
  obtain ⟨x4, h4⟩ : ∃ x, x = x3.go (n2 : Nat) := ⟨_, rfl⟩
  have HS0 := Go.Lib.hid (show Small x0.l from by rw [h0]; exact HSb.out)
  have HS2 := Go.Lib.hid (show Small x2.l from by rw [h2]; exact Rd.small (by rw [h1]; exact Rd.small HS0.out _) _)
  have hn1s : n1 < 65536 := by rw [hn1]; exact num_lt HS0.out 2
  have hn2s : n2 < 65536 := by rw [hn2]; exact num_lt HS2.out 2
  have l1 : x1.l.length ≤ 5000 := by rw [h1]; exact Nat.le_trans (rest_len _ _ _) (by rw [h0]; exact hl)
  have l2 : x2.l.length ≤ 5000 := by rw [h2]; exact Nat.le_trans (rest_len _ _ _) l1
  have l3 : x3.l.length ≤ 5000 := by rw [h3]; exact Nat.le_trans (rest_len _ _ _) l2
  have hx4l : x4.l.length ≤ 5000 := by rw [h4]; exact Nat.le_trans (rest_len _ _ _) l3
  have hGl : G.length ≤ 100000 := by rw [hG]; exact Nat.le_trans (got_len2 _ _ _) (Nat.le_trans l1 (by decide))
  have hQl : Q.length ≤ 100000 := by rw [hQ]; exact Nat.le_trans (got_len2 _ _ _) (Nat.le_trans l3 (by decide))
  have RDU := Go.Lib.hid (rd_upd b x1 x2 x3 x4 n1 n2 G Q (by rw [h1, h0]) (by rw [hn1, h0]) h2 hG h3 hn2 h4 hQ)
  have C1 := Go.Lib.hid (fun n br W (h : R W (w.heap.size + 2) n (.pointer (some ⟨br, 0, none⟩)) x0.l x0.b (fun k => k = br)) => show Calls Tryz.prog 43 #[.pointer (some ⟨br, 0, none⟩)] W (fun e w' => e = .returned (.int .i64 n1) ∧ R w' (w.heap.size + 2) n (.pointer (some ⟨br, 0, none⟩)) x1.l x1.b (fun k => k = br) ∧ Only (fun k => k = br) W w') from by
    rw [hn1, h1]
    exact u16_any _ _ n x0.l x0.b _ W HS0.out h)
  have C2 := Go.Lib.hid (fun n br W (h : R W (w.heap.size + 2) n (.pointer (some ⟨br, 0, none⟩)) x1.l x1.b (fun k => k = br)) => show Calls Tryz.prog 42 #[.pointer (some ⟨br, 0, none⟩), .int .i64 n1] W (fun e w' => ∃ A c, e = .returned (.slice A G.length c) ∧ U8s w' (.slice A G.length c) G ∧ R w' (w.heap.size + 2) n (.pointer (some ⟨br, 0, none⟩)) x2.l x2.b (fun k => k = br) ∧ Only (fun k => k = br) W w') from by
    rw [hG, h2]
    exact take_any _ _ n x1.l x1.b _ (n1 : Int) (by simp [Lit.wf, IntKind.min, IntKind.max, IntKind.signed, IntKind.bits]; omega) W h)
  have C3 := Go.Lib.hid (fun n br W (h : R W (w.heap.size + 2) n (.pointer (some ⟨br, 0, none⟩)) x2.l x2.b (fun k => k = br)) => show Calls Tryz.prog 43 #[.pointer (some ⟨br, 0, none⟩)] W (fun e w' => e = .returned (.int .i64 n2) ∧ R w' (w.heap.size + 2) n (.pointer (some ⟨br, 0, none⟩)) x3.l x3.b (fun k => k = br) ∧ Only (fun k => k = br) W w') from by
    rw [hn2, h3]
    exact u16_any _ _ n x2.l x2.b _ W HS2.out h)
  have C4 := Go.Lib.hid (fun n br W (h : R W (w.heap.size + 2) n (.pointer (some ⟨br, 0, none⟩)) x3.l x3.b (fun k => k = br)) => show Calls Tryz.prog 42 #[.pointer (some ⟨br, 0, none⟩), .int .i64 n2] W (fun e w' => ∃ A c, e = .returned (.slice A Q.length c) ∧ U8s w' (.slice A Q.length c) Q ∧ R w' (w.heap.size + 2) n (.pointer (some ⟨br, 0, none⟩)) x4.l x4.b (fun k => k = br) ∧ Only (fun k => k = br) W w') from by
    rw [hQ, h4]
    exact take_any _ _ n x3.l x3.b _ (n2 : Int) (by simp [Lit.wf, IntKind.min, IntKind.max, IntKind.signed, IntKind.bits]; omega) W h)
  have CD := Go.Lib.hid (fun vv W (h : U8s W vv G) => (decode_own vv G W h hGl).mono fun _ _ h => decO_of h)
  have CA := Go.Lib.hid (fun vv W (h : U8s W vv Q) (hb : Below w.heap.size w W) => (decode_g vv Q W h hQl (hSh.keep hb)).mono fun _ _ h => dec16_of h)
  have CB := Go.Lib.hid (fun n br W (h : R W (w.heap.size + 2) n (.pointer (some ⟨br, 0, none⟩)) x4.l x4.b (fun k => k = br)) => bad_any _ _ n x4.l x4.b _ W h)
  have HX0 := Go.Lib.hid h0
  clear D1 D2 hv h0 hn1 h1 hG h2 hn2 h3 hQ h4 HSb HS0 HS2 hn1s hn2s l1 l2 l3 hGl hQl hl hSh
  go_enter Tryz.func14, Tryz.ntmps14
  go_upto_region 4 with (first
    | (have h := D0.out; go_at_call 40; first | (refine CN.out.mono ?_; rintro e z0 ⟨br, rfl, hR, hb⟩; rw [h.2] at hR; have T0 := Go.Lib.hid (UdSt.mk (x := x0) (h.1.below hb) (by rw [HX0.out]; exact hR)); clear hR hb h D0) | (trace "FELL New"; trace_state; fail_if_success skip))
    | (have h := T0.out; go_at_call 43; first | (refine (C1.out _ _ _ h.rd).mono ?_; rintro e z1 ⟨rfl, hR, ho⟩; have T1 := Go.Lib.hid (h.read (y := x1) hR ho); clear hR ho h T0) | (trace "FELL U1"; trace_state; fail_if_success skip))
    | (have h := T1.out; go_at_call 42; first | (refine (C2.out _ _ _ h.rd).mono ?_; rintro e z2 ⟨A2, c2, rfl, hU, hR, ho⟩; have T2 := Go.Lib.hid (h.read (y := x2) hR ho); have U2 := Go.Lib.hid hU; clear hU hR ho h T1) | (trace "FELL T1"; trace_state; fail_if_success skip))
    | (have h := T2.out; go_at_call 41; first | (refine (CD.out _ _ U2.out).mono ?_; rintro e z3 ⟨Ag, mg, cg, er, rfl, hGO, hb⟩; have GO3 := Go.Lib.hid (hGO.lower h.le); have T3 := Go.Lib.hid (h.below hb); clear hGO hb h T2 U2) | (trace "FELL ND"; trace_state; fail_if_success skip))
    | (have h := T3.out; go_at_call 43; first | (refine (C3.out _ _ _ h.rd).mono ?_; rintro e z4 ⟨rfl, hR, ho⟩; have T4 := Go.Lib.hid (h.read (y := x3) hR ho); have GO4 := Go.Lib.hid (GO3.out.on ho (fun k hk => by have := h.ge.2; omega)); clear hR ho h T3 GO3) | (trace "FELL U2"; trace_state; fail_if_success skip))
    | (have h := T4.out; go_at_call 42; first | (refine (C4.out _ _ _ h.rd).mono ?_; rintro e z5 ⟨A5, c5, rfl, hU, hR, ho⟩; have T5 := Go.Lib.hid (h.read (y := x4) hR ho); have U5 := Go.Lib.hid hU; have GO5 := Go.Lib.hid (GO4.out.on ho (fun k hk => by have := h.ge.2; omega)); clear hU hR ho h T4 GO4) | (trace "FELL T2"; trace_state; fail_if_success skip)))
  clear C1 C2 C3 C4 HX0 CN
  rcases GO5.out with ⟨hd, rfl⟩ | ⟨L, Ag2, cg2, hd, rfl, hvg, hown, hok⟩
  · have HD := Go.Lib.hid (show decU b = .inl ⟨3, (1 : Nat), []⟩ from by
      cases hb4 : x4.b with
      | true => exact RDU.out.1 hb4
      | false => exact (RDU.out.2 hb4).1 hd)
    clear hd GO5 U5 CA CB CD
    go_wp2_with (first
      | (go_at_call 45; first | (refine (CF.out _ _).mono ?_; rintro e zf ⟨rfl, hb⟩; have SZ := Go.Lib.hid (T5.out.ru.below hb); clear hb) | (trace "FELL F"; trace_state; fail_if_success skip))
      | (have h := SZ.out; refine wpList_store_row rfl 29 (.tmp 2) (.tmp 31) rfl w.heap.size #[.slice none 0 0, .int .i64 0, .int .i64 0, .slice none 0 0, .int .u32 0, .int .u32 0, .int .u32 0, .int .u32 0, .int .u32 0, .slice none 0 0, .slice none 0 0] rfl rfl _ _ h.ru.blk (by kernel_rfl) rfl (by simp [Value.oneCell']) ?_; clear h; have SM := Go.Lib.hid (SZ.out.mid #[.slice none 0 0, .int .i64 0, .int .i64 0, .slice none 0 0, .int .u32 0, .int .u32 0, .int .u32 0, .int .u32 0, .int .u32 0, .slice none 0 0, .slice none 0 0]))
      | (have h := SM.out; refine wpList_store_row rfl 41 (.tmp 3) (.tmp 32) rfl (w.heap.size + 1) #[.int .i64 3, .int .i64 1, .slice none 0 0] rfl rfl _ _ h (by kernel_rfl) rfl (by simp [Value.oneCell']) ?_; clear h; clear SM))
    (try simp only [Exit.inBlock, Exit.then])
    obtain ⟨⟨r0, r1, r2, r3, r4, r5, r6, r7, r8, r9, r10⟩, t0, t1, t2⟩ := SZ.out.finZ (.int .i64 3) (.int .i64 1) (.slice none 0 0)
    unfold endZ at r0 r1 r2 r3 r4 r5 r6 r7 r8 r9 r10 t0 t1 t2
    refine bodyPost_ret (v := .tuple #[.agg #[.slice none 0 0, .int .i64 0, .int .i64 0, .slice none 0 0, .int .u32 0, .int .u32 0, .int .u32 0, .int .u32 0, .int .u32 0, .slice none 0 0, .slice none 0 0], .agg #[.int .i64 3, .int .i64 1, .slice none 0 0]]) (by simp [results, Tryz.results14, go_sem, r0, r1, r2, r3, r4, r5, r6, r7, r8, r9, r10, t0, t1, t2]) rfl ?_
    exact SZ.out.bad0 (s := 1) HD.out rfl (by decide)
  injection hvg with hv1 hv2 hv3
  subst hv1 hv2 hv3
  have OW := Go.Lib.hid hown
  have HOK := Go.Lib.hid hok
  clear GO5 hown hok CD
  cases hb4 : x4.b with
  | true =>
    have HD := Go.Lib.hid (show decU b = .inl ⟨3, (1 : Nat), []⟩ from RDU.out.1 hb4)
    have CBx := Go.Lib.hid (fun n br W (h : R W (w.heap.size + 2) n (.pointer (some ⟨br, 0, none⟩)) x4.l x4.b (fun k => k = br)) => show Calls Tryz.prog 44 #[.pointer (some ⟨br, 0, none⟩)] W (Tells (.bool true) W) from by
      have k2 := CB.out _ _ _ h
      rw [hb4] at k2
      exact k2)
    clear hd hb4 CA CB
    go_wp2_with (first
      | (have h := T5.out; go_at_call 44; first | (refine (CBx.out _ _ _ h.rd).mono ?_; rintro e z6 ⟨rfl, hb⟩; have T6 := Go.Lib.hid (h.below hb); have U6 := Go.Lib.hid (U5.out.keep hb); have OW6 := Go.Lib.hid (own_keep OW.out hb); clear hb h T5 U5 OW) | (trace "FELL Bad"; trace_state; fail_if_success skip))
      | (go_at_call 45; first | (refine (CF.out _ _).mono ?_; rintro e zf ⟨rfl, hb⟩; have SZ := Go.Lib.hid (T6.out.ru.below hb); clear hb) | (trace "FELL F"; trace_state; fail_if_success skip))
      | (have h := SZ.out; refine wpList_store_row rfl 29 (.tmp 2) (.tmp 31) rfl w.heap.size #[.slice none 0 0, .int .i64 0, .int .i64 0, .slice none 0 0, .int .u32 0, .int .u32 0, .int .u32 0, .int .u32 0, .int .u32 0, .slice none 0 0, .slice none 0 0] rfl rfl _ _ h.ru.blk (by kernel_rfl) rfl (by simp [Value.oneCell']) ?_; clear h; have SM := Go.Lib.hid (SZ.out.mid #[.slice none 0 0, .int .i64 0, .int .i64 0, .slice none 0 0, .int .u32 0, .int .u32 0, .int .u32 0, .int .u32 0, .int .u32 0, .slice none 0 0, .slice none 0 0]))
      | (have h := SM.out; refine wpList_store_row rfl 41 (.tmp 3) (.tmp 32) rfl (w.heap.size + 1) #[.int .i64 3, .int .i64 1, .slice none 0 0] rfl rfl _ _ h (by kernel_rfl) rfl (by simp [Value.oneCell']) ?_; clear h; clear SM))
    (try simp only [Exit.inBlock, Exit.then])
    obtain ⟨⟨r0, r1, r2, r3, r4, r5, r6, r7, r8, r9, r10⟩, t0, t1, t2⟩ := SZ.out.finZ (.int .i64 3) (.int .i64 1) (.slice none 0 0)
    unfold endZ at r0 r1 r2 r3 r4 r5 r6 r7 r8 r9 r10 t0 t1 t2
    refine bodyPost_ret (v := .tuple #[.agg #[.slice none 0 0, .int .i64 0, .int .i64 0, .slice none 0 0, .int .u32 0, .int .u32 0, .int .u32 0, .int .u32 0, .int .u32 0, .slice none 0 0, .slice none 0 0], .agg #[.int .i64 3, .int .i64 1, .slice none 0 0]]) (by simp [results, Tryz.results14, go_sem, r0, r1, r2, r3, r4, r5, r6, r7, r8, r9, r10, t0, t1, t2]) rfl ?_
    exact SZ.out.bad0 (s := 1) HD.out rfl (by decide)
  | false =>
  have HD2 := Go.Lib.hid (show decU b = decU2 L (decodeA Q) x4.l from (RDU.out.2 hb4).2 L hd)
  have CBx := Go.Lib.hid (fun n br W (h : R W (w.heap.size + 2) n (.pointer (some ⟨br, 0, none⟩)) x4.l x4.b (fun k => k = br)) => show Calls Tryz.prog 44 #[.pointer (some ⟨br, 0, none⟩)] W (Tells (.bool false) W) from by
    have k2 := CB.out _ _ _ h
    rw [hb4] at k2
    exact k2)
  clear CB
  have HB4 := Go.Lib.hid hb4
  clear hd RDU hb4
  go_upto_region 6 with ((have h := T5.out; go_at_call 44; first | (refine (CBx.out _ _ _ h.rd).mono ?_; rintro e z6 ⟨rfl, hb⟩; have T6 := Go.Lib.hid (h.below hb); have U6 := Go.Lib.hid (U5.out.keep hb); have OW6 := Go.Lib.hid (own_keep OW.out hb); clear hb h T5 U5 OW) | (trace "FELL Bad"; trace_state; fail_if_success skip)))
  go_cut [8, 9] (fun s8 s9 wx => ∃ (X : World) (a : At) (m : No) (Ap : Option Addr) (np cp : Nat) (Ac : Option Addr) (nc c3 : Nat) (Ad : Option Addr) (nd cd : Nat), s8 = .pointer (some ⟨X.heap.size, 0, none⟩) ∧ s9 = .pointer (some ⟨X.heap.size + 1, 0, none⟩) ∧ Hid (a = (outA (decodeA Q)).1 ∧ m = (outA (decodeA Q)).2) ∧ Hid (UpSt w z0.heap.size br x4 L Ag cg a m.code m.sub (.slice Ap np cp) (.slice Ac nc c3) (.slice Ad nd cd) X wx) ∧ Hid (Note wx (.agg #[.int .i64 m.code, .int .i64 m.sub, .slice Ad nd cd]) m))
  case first =>
    go_wp2_with (first
      | (have h := T6.out; go_at_call 46; first | (refine (CA.out _ _ U6.out h.ru.low).mono ?_; rintro e X ⟨a, m, Ap, np, cp, Ac, nc, c3, Ad, nd, cd, ha, hm, rfl, h1, h2, hb⟩; have SS := up_start m.code m.sub (.slice Ad nd cd) (h.below hb) (own_keep OW6.out hb) (atF_lower h1 (h.le)); have S := Go.Lib.hid SS.1; have NO := Go.Lib.hid (h2.keep SS.2); have HE := Go.Lib.hid (And.intro ha hm); have K9 := Go.Lib.hid (new16_9 X); have K3 := Go.Lib.hid (new16_3 X #[.int .i64 a.has, .int .i64 a.origin, .slice Ap np cp, .int .u32 a.hop, .int .u32 a.med, .int .u32 a.pref, .int .u32 a.aas, .int .u32 a.aid, .slice Ac nc c3]); unfold new16 at S K9 K3 NO; unfold aV; clear ha hm h1 h2 hb h SS T6 U6 OW6) | (trace "FELL AD"; trace_state; fail_if_success skip))
      | (have h := K9.out; refine wpList_store_row rfl 27 (.tmp 8) (.tmp 36) rfl X.heap.size #[.int .i64 a.has, .int .i64 a.origin, .slice Ap np cp, .int .u32 a.hop, .int .u32 a.med, .int .u32 a.pref, .int .u32 a.aas, .int .u32 a.aid, .slice Ac nc c3] rfl rfl _ _ h (by kernel_rfl) rfl (by simp [Value.oneCell']) ?_; clear h; clear K9)
      | (have h := K3.out; refine wpList_store_row rfl 41 (.tmp 9) (.tmp 37) rfl (X.heap.size + 1) #[.int .i64 m.code, .int .i64 m.sub, .slice Ad nd cd] rfl rfl _ _ h (by kernel_rfl) rfl (by simp [Value.oneCell']) ?_; clear h; clear K3))
    go_meet
    exact ⟨_, _, _, _, _, _, _, _, _, _, _, _, rfl, rfl, HE, S, NO⟩
  case rest =>
  obtain ⟨X, a, m, Ap, np, cp, Ac, nc, c3, Ad, nd, cd, rfl, rfl, HE, S, NO⟩ := hcut
  clear CBx CA
  cases hr : decodeA Q with
  | inl m2 =>
    obtain ⟨ha, hn⟩ := HE.out
    rw [hr] at ha hn
    replace hn : m = m2 := hn
    subst hn
    have hcode : m.code = 3 := decA_code _ _ _ _ _ hr
    have HD := Go.Lib.hid (show decU b = .inl m from by rw [HD2.out, hr]; rfl)
    have y1 : ((m.code : Int) != 0) = true := by rw [hcode]; rfl
    clear ha hr HE hcode HD2
    obtain ⟨q0, q1, q2⟩ := S.out.b3.cells
    have hwB : w.heap.size + 2 ≤ X.heap.size := by have := S.out.hn; have := S.out.ud.ge; omega
    have p0 := (cell_setRow_other wc.drew w.heap.size #[.slice none 0 0, .int .i64 0, .int .i64 0, .slice none 0 0, .int .u32 0, .int .u32 0, .int .u32 0, .int .u32 0, .int .u32 0, .slice none 0 0, .slice none 0 0] ⟨X.heap.size + 1, 0, none⟩ (by show X.heap.size + 1 ≠ w.heap.size; omega)).trans q0
    have p1 := (cell_setRow_other wc.drew w.heap.size #[.slice none 0 0, .int .i64 0, .int .i64 0, .slice none 0 0, .int .u32 0, .int .u32 0, .int .u32 0, .int .u32 0, .int .u32 0, .slice none 0 0, .slice none 0 0] ⟨X.heap.size + 1, 1, none⟩ (by show X.heap.size + 1 ≠ w.heap.size; omega)).trans q1
    have p2 := (cell_setRow_other wc.drew w.heap.size #[.slice none 0 0, .int .i64 0, .int .i64 0, .slice none 0 0, .int .u32 0, .int .u32 0, .int .u32 0, .int .u32 0, .int .u32 0, .slice none 0 0, .slice none 0 0] ⟨X.heap.size + 1, 2, none⟩ (by show X.heap.size + 1 ≠ w.heap.size; omega)).trans q2
    have KU := Go.Lib.hid (show wc.drew.heap[w.heap.size]? = some (.cells #[.slice none 0 0, .int .i64 0, .int .i64 0, .slice none 0 0, .int .u32 0, .int .u32 0, .int .u32 0, .int .u32 0, .int .u32 0, .slice none 0 0, .slice none 0 0] 29 (0, 0)) from S.out.ud.ru.ru.blk)
    have KN := Go.Lib.hid (show (wc.drew.setRow w.heap.size #[.slice none 0 0, .int .i64 0, .int .i64 0, .slice none 0 0, .int .u32 0, .int .u32 0, .int .u32 0, .int .u32 0, .int .u32 0, .slice none 0 0, .slice none 0 0]).heap[w.heap.size + 1]? = some (.cells #[.int .i64 0, .int .i64 0, .slice none 0 0] 41 (0, 0)) from (setRow_other wc.drew w.heap.size (w.heap.size + 1) _ (by omega)).trans S.out.ud.ru.r3.blk)
    clear hwB
    go_upto_region 8 with fail
    go_cut [] (fun wx => wx = endZ w wc.drew (.int .i64 m.code) (.int .i64 m.sub) (.slice Ad nd cd))
    case first =>
      refine wp_region_any (by kernel_rfl) ?_
      change wpAny _ _ _ _ _ _ _ (World.drew _)
      refine wpAny_take (i := 0) (v := .agg #[.slice none 0 0, .int .i64 0, .int .i64 0, .slice none 0 0, .int .u32 0, .int .u32 0, .int .u32 0, .int .u32 0, .int .u32 0, .slice none 0 0, .slice none 0 0]) rfl (by kernel_rfl) (by kernel_rfl) (by kernel_rfl) (fun _ _ _ h => h) (Or.inl ⟨by rfl, by intro w; go_simp; try with_reducible rfl⟩) ?_
      refine wpAny_ready (rs := [1, 2]) (by kernel_rfl) (by simp) ?_
      refine AllReady.cons (o := ⟨some 42, .load 41 (.tmp 9), 41, "bytes.go:44", #[⟨2, .gcOnly .lateStores⟩], none⟩) rfl (fun K hK => ?_) (AllReady.cons  rfl (fun K hK => ?_) AllReady.nil)
      · go_simp
        refine hK _ _ ?_
        clear hK K
        refine wpAny_ready (rs := [2]) (by kernel_rfl) (by simp) ?_
        refine AllReady.cons  rfl (fun K hK => ?_) AllReady.nil
        rw [if_pos (by rfl)]
        refine wp_store_row 29 (.tmp 2) (.tmp 41) rfl w.heap.size #[.slice none 0 0, .int .i64 0, .int .i64 0, .slice none 0 0, .int .u32 0, .int .u32 0, .int .u32 0, .int .u32 0, .int .u32 0, .slice none 0 0, .slice none 0 0] rfl rfl _ _ KU.out (by kernel_rfl) rfl (by simp [Value.oneCell']) ?_
        refine hK _ _ ?_
        clear hK K
        refine wpAny_ready (rs := [3]) (by kernel_rfl) (by simp) ?_
        refine AllReady.cons  rfl (fun K hK => ?_) AllReady.nil
        rw [if_pos (by rfl)]
        refine wp_store_row 41 (.tmp 3) (.tmp 42) rfl (w.heap.size + 1) #[.int .i64 m.code, .int .i64 m.sub, .slice Ad nd cd] rfl rfl _ _ KN.out (by kernel_rfl) rfl (by simp [Value.oneCell']) ?_
        refine hK _ _ ?_
        clear hK K
        refine wpAny_done (by kernel_rfl) ?_ _
        go_wp2_with fail
        go_meet
        rfl
      · rw [if_pos (by rfl)]
        refine wp_store_row 29 (.tmp 2) (.tmp 41) rfl w.heap.size #[.slice none 0 0, .int .i64 0, .int .i64 0, .slice none 0 0, .int .u32 0, .int .u32 0, .int .u32 0, .int .u32 0, .int .u32 0, .slice none 0 0, .slice none 0 0] rfl rfl _ _ KU.out (by kernel_rfl) rfl (by simp [Value.oneCell']) ?_
        refine hK _ _ ?_
        clear hK K
        refine wpAny_ready (rs := [1]) (by kernel_rfl) (by simp) ?_
        refine AllReady.cons (o := ⟨some 42, .load 41 (.tmp 9), 41, "bytes.go:44", #[⟨2, .gcOnly .lateStores⟩], none⟩) rfl (fun K hK => ?_) AllReady.nil
        go_simp
        refine hK _ _ ?_
        clear hK K
        refine wpAny_ready (rs := [3]) (by kernel_rfl) (by simp) ?_
        refine AllReady.cons  rfl (fun K hK => ?_) AllReady.nil
        rw [if_pos (by rfl)]
        refine wp_store_row 41 (.tmp 3) (.tmp 42) rfl (w.heap.size + 1) #[.int .i64 m.code, .int .i64 m.sub, .slice Ad nd cd] rfl rfl _ _ KN.out (by kernel_rfl) rfl (by simp [Value.oneCell']) ?_
        refine hK _ _ ?_
        clear hK K
        refine wpAny_done (by kernel_rfl) ?_ _
        go_wp2_with fail
        go_meet
        rfl
    case rest =>
    subst hcut
    have RD := Go.Lib.hid (S.out.ud.ru.below (Below.refl _ wc).drew)
    have NO2 := Go.Lib.hid (NO.out.keep (Below.refl _ wc).drew)
    obtain ⟨⟨r0, r1, r2, r3, r4, r5, r6, r7, r8, r9, r10⟩, t0, t1, t2⟩ := RD.out.finZ (.int .i64 m.code) (.int .i64 m.sub) (.slice Ad nd cd)
    clear KU KN p0 p1 p2 q0 q1 q2 S y1 NO
    have HEV := Go.Lib.hid (RD.out.badN HD.out NO2.out)
    generalize endZ w wc.drew (.int .i64 m.code) (.int .i64 m.sub) (.slice Ad nd cd) = WE at r0 r1 r2 r3 r4 r5 r6 r7 r8 r9 r10 t0 t1 t2 HEV ⊢
    go_wp2_with fail
    (try simp only [Exit.inBlock, Exit.then])
    refine bodyPost_ret (v := .tuple #[.agg #[.slice none 0 0, .int .i64 0, .int .i64 0, .slice none 0 0, .int .u32 0, .int .u32 0, .int .u32 0, .int .u32 0, .int .u32 0, .slice none 0 0, .slice none 0 0], .agg #[.int .i64 m.code, .int .i64 m.sub, .slice Ad nd cd]]) (by simp [results, Tryz.results14, go_sem, r0, r1, r2, r3, r4, r5, r6, r7, r8, r9, r10, t0, t1, t2]) rfl ?_
    exact HEV.out
  | inr a2 =>
  obtain ⟨ha, hn⟩ := HE.out
  rw [hr] at ha hn
  replace hn : m = ⟨0, 0, []⟩ := hn
  replace ha : a = a2 := ha
  subst ha hn
  replace S := Go.Lib.hid (show UpSt w z0.heap.size br x4 L Ag cg a 0 0 (.slice Ap np cp) (.slice Ac nc c3) (.slice Ad nd cd) X wc from S.out)
  replace NO := Go.Lib.hid (show Note wc (.agg #[.int .i64 0, .int .i64 0, .slice Ad nd cd]) ⟨0, 0, []⟩ from NO.out)
  have HD3 := Go.Lib.hid (show decU b = decU3 L a x4.l from by rw [HD2.out, hr]; rfl)
  clear hr HE HD2
  obtain ⟨q0, q1, q2⟩ := S.out.b3.cells
  have CL := Go.Lib.hid (fun n br W (h : R W (w.heap.size + 2) n (.pointer (some ⟨br, 0, none⟩)) x4.l x4.b (fun k => k = br)) => left_any _ _ n x4.l x4.b _ W h)
  have left : Hid True := Go.Lib.hid True.intro
  go_upto_region 9 with fail
  have T9 := Go.Lib.hid True.intro
  by_cases k2 : x4.l.length = 0
  · have y2 : ((x4.l.length : Int) == 0) = true := by rw [k2]; rfl
    have HD := Go.Lib.hid (show decU b = .inr ⟨L, zeroA, []⟩ from by rw [HD3.out]; exact if_pos (List.eq_nil_of_length_eq_zero k2))
    clear k2 HD3
    go_upto_region 10 with (have tok := T9.out; go_at_call 47; first | (refine (CL.out _ _ _ S.out.ud.rd).mono ?_; rintro e zl ⟨rfl, hb⟩; replace S := Go.Lib.hid (S.out.below hb); replace NO := Go.Lib.hid (NO.out.keep hb); clear hb tok T9 q0 q1 q2; obtain ⟨q0, q1, q2⟩ := S.out.b3.cells) | (trace "FELL Left"; trace_state; fail_if_success skip))
    have hwB : w.heap.size + 2 ≤ X.heap.size := by have := S.out.hn; have := S.out.ud.ge; omega
    have p0 := (cell_setRow_other zl.drew w.heap.size #[.slice Ag L.length cg, .int .i64 0, .int .i64 0, .slice none 0 0, .int .u32 0, .int .u32 0, .int .u32 0, .int .u32 0, .int .u32 0, .slice none 0 0, .slice none 0 0] ⟨X.heap.size + 1, 0, none⟩ (by show X.heap.size + 1 ≠ w.heap.size; omega)).trans q0
    have p1 := (cell_setRow_other zl.drew w.heap.size #[.slice Ag L.length cg, .int .i64 0, .int .i64 0, .slice none 0 0, .int .u32 0, .int .u32 0, .int .u32 0, .int .u32 0, .int .u32 0, .slice none 0 0, .slice none 0 0] ⟨X.heap.size + 1, 1, none⟩ (by show X.heap.size + 1 ≠ w.heap.size; omega)).trans q1
    have p2 := (cell_setRow_other zl.drew w.heap.size #[.slice Ag L.length cg, .int .i64 0, .int .i64 0, .slice none 0 0, .int .u32 0, .int .u32 0, .int .u32 0, .int .u32 0, .int .u32 0, .slice none 0 0, .slice none 0 0] ⟨X.heap.size + 1, 2, none⟩ (by show X.heap.size + 1 ≠ w.heap.size; omega)).trans q2
    have KU := Go.Lib.hid (show zl.drew.heap[w.heap.size]? = some (.cells #[.slice none 0 0, .int .i64 0, .int .i64 0, .slice none 0 0, .int .u32 0, .int .u32 0, .int .u32 0, .int .u32 0, .int .u32 0, .slice none 0 0, .slice none 0 0] 29 (0, 0)) from S.out.ud.ru.ru.blk)
    have KN := Go.Lib.hid (show (zl.drew.setRow w.heap.size #[.slice Ag L.length cg, .int .i64 0, .int .i64 0, .slice none 0 0, .int .u32 0, .int .u32 0, .int .u32 0, .int .u32 0, .int .u32 0, .slice none 0 0, .slice none 0 0]).heap[w.heap.size + 1]? = some (.cells #[.int .i64 0, .int .i64 0, .slice none 0 0] 41 (0, 0)) from (setRow_other zl.drew w.heap.size (w.heap.size + 1) _ (by omega)).trans S.out.ud.ru.r3.blk)
    clear hwB
    go_cut [] (fun wx => wx = endU w zl.drew zeroA (.slice Ag L.length cg) (.slice none 0 0) (.slice none 0 0) (.slice none 0 0) (.int .i64 0) (.int .i64 0) (.slice Ad nd cd))
    case first =>
      refine wp_region_any (by kernel_rfl) ?_
      change wpAny _ _ _ _ _ _ _ (World.drew _)
      refine wpAny_take (i := 0) (v := .slice Ag L.length cg) rfl (by kernel_rfl) (by kernel_rfl) (by kernel_rfl) (fun _ _ _ h => h) (Or.inl ⟨by rfl, by intro w; go_simp; try with_reducible rfl⟩) ?_
      refine wpAny_take (i := 1) (v := .agg #[.slice Ag L.length cg, .int .i64 0, .int .i64 0, .slice none 0 0, .int .u32 0, .int .u32 0, .int .u32 0, .int .u32 0, .int .u32 0, .slice none 0 0, .slice none 0 0]) rfl (by kernel_rfl) (by kernel_rfl) (by kernel_rfl) (fun _ _ _ h => h) (Or.inl ⟨by rfl, by intro w; go_simp; try with_reducible rfl⟩) ?_
      refine wpAny_ready (rs := [2, 3]) (by kernel_rfl) (by simp) ?_
      refine AllReady.cons (o := ⟨some 48, .load 41 (.tmp 9), 41, "bytes.go:48", #[⟨3, .gcOnly .lateStores⟩], none⟩) rfl (fun K hK => ?_) (AllReady.cons  rfl (fun K hK => ?_) AllReady.nil)
      · go_simp
        refine hK _ _ ?_
        clear hK K
        refine wpAny_ready (rs := [3]) (by kernel_rfl) (by simp) ?_
        refine AllReady.cons  rfl (fun K hK => ?_) AllReady.nil
        rw [if_pos (by rfl)]
        refine wp_store_row 29 (.tmp 2) (.tmp 47) rfl w.heap.size #[.slice Ag L.length cg, .int .i64 0, .int .i64 0, .slice none 0 0, .int .u32 0, .int .u32 0, .int .u32 0, .int .u32 0, .int .u32 0, .slice none 0 0, .slice none 0 0] rfl rfl _ _ KU.out (by kernel_rfl) rfl (by simp [Value.oneCell']) ?_
        refine hK _ _ ?_
        clear hK K
        refine wpAny_ready (rs := [4]) (by kernel_rfl) (by simp) ?_
        refine AllReady.cons  rfl (fun K hK => ?_) AllReady.nil
        rw [if_pos (by rfl)]
        refine wp_store_row 41 (.tmp 3) (.tmp 48) rfl (w.heap.size + 1) #[.int .i64 0, .int .i64 0, .slice Ad nd cd] rfl rfl _ _ KN.out (by kernel_rfl) rfl (by simp [Value.oneCell']) ?_
        refine hK _ _ ?_
        clear hK K
        refine wpAny_done (by kernel_rfl) ?_ _
        go_wp2_with fail
        go_meet
        rfl
      · rw [if_pos (by rfl)]
        refine wp_store_row 29 (.tmp 2) (.tmp 47) rfl w.heap.size #[.slice Ag L.length cg, .int .i64 0, .int .i64 0, .slice none 0 0, .int .u32 0, .int .u32 0, .int .u32 0, .int .u32 0, .int .u32 0, .slice none 0 0, .slice none 0 0] rfl rfl _ _ KU.out (by kernel_rfl) rfl (by simp [Value.oneCell']) ?_
        refine hK _ _ ?_
        clear hK K
        refine wpAny_ready (rs := [2]) (by kernel_rfl) (by simp) ?_
        refine AllReady.cons (o := ⟨some 48, .load 41 (.tmp 9), 41, "bytes.go:48", #[⟨3, .gcOnly .lateStores⟩], none⟩) rfl (fun K hK => ?_) AllReady.nil
        go_simp
        refine hK _ _ ?_
        clear hK K
        refine wpAny_ready (rs := [4]) (by kernel_rfl) (by simp) ?_
        refine AllReady.cons  rfl (fun K hK => ?_) AllReady.nil
        rw [if_pos (by rfl)]
        refine wp_store_row 41 (.tmp 3) (.tmp 48) rfl (w.heap.size + 1) #[.int .i64 0, .int .i64 0, .slice Ad nd cd] rfl rfl _ _ KN.out (by kernel_rfl) rfl (by simp [Value.oneCell']) ?_
        refine hK _ _ ?_
        clear hK K
        refine wpAny_done (by kernel_rfl) ?_ _
        go_wp2_with fail
        go_meet
        rfl
    case rest =>
    subst hcut
    have RD := Go.Lib.hid (S.out.ud.ru.below (Below.refl _ zl).drew)
    have NO2 := Go.Lib.hid (NO.out.keep (Below.refl _ zl).drew)
    have hge := S.out.ud.ge
    have HU := Go.Lib.hid (show UpdF z0.heap.size zl.drew (uV zeroA (.slice Ag L.length cg) (.slice none 0 0) (.slice none 0 0) (.slice none 0 0)) ⟨L, zeroA, []⟩ from ⟨Ag, cg, _, _, none, 0, rfl, own_keep S.out.gone (Below.refl _ zl).drew, HOK.out, ⟨zeroA_ok, nil_segsF _ _ _, U32s.nil _, NewAt.nil _⟩, World.ownsRow_nil _ _ _ _, oks_nil⟩)
    obtain ⟨f0, f1, -⟩ := RD.out.fin zeroA (.slice Ag L.length cg) (.slice none 0 0) (.slice none 0 0) (.slice none 0 0) (.int .i64 0) (.int .i64 0) (.slice Ad nd cd)
    obtain ⟨r0, r1, r2, r3, r4, r5, r6, r7, r8, r9, r10⟩ := zcells f0
    obtain ⟨t0, t1, t2⟩ := f1.cells
    clear f0 f1 KU KN p0 p1 p2 q0 q1 q2 S y2 NO
    have HEV := Go.Lib.hid (show DecU b w (.returned (.tuple #[.agg #[.slice Ag L.length cg, .int .i64 0, .int .i64 0, .slice none 0 0, .int .u32 0, .int .u32 0, .int .u32 0, .int .u32 0, .int .u32 0, .slice none 0 0, .slice none 0 0], .agg #[.int .i64 0, .int .i64 0, .slice Ad nd cd]])) (endU w zl.drew zeroA (.slice Ag L.length cg) (.slice none 0 0) (.slice none 0 0) (.slice none 0 0) (.int .i64 0) (.int .i64 0) (.slice Ad nd cd)) from RD.out.okN (b := b) (u := ⟨L, zeroA, []⟩) (base := z0.heap.size) (by omega) HU.out NO2.out HD.out)
    clear hge
    generalize endU w zl.drew zeroA (.slice Ag L.length cg) (.slice none 0 0) (.slice none 0 0) (.slice none 0 0) (.int .i64 0) (.int .i64 0) (.slice Ad nd cd) = WE at r0 r1 r2 r3 r4 r5 r6 r7 r8 r9 r10 t0 t1 t2 HEV ⊢
    go_wp2_with fail
    (try simp only [Exit.inBlock, Exit.then])
    refine bodyPost_ret (v := .tuple #[.agg #[.slice Ag L.length cg, .int .i64 0, .int .i64 0, .slice none 0 0, .int .u32 0, .int .u32 0, .int .u32 0, .int .u32 0, .int .u32 0, .slice none 0 0, .slice none 0 0], .agg #[.int .i64 0, .int .i64 0, .slice Ad nd cd]]) (by simp [results, Tryz.results14, go_sem, r0, r1, r2, r3, r4, r5, r6, r7, r8, r9, r10, t0, t1, t2]) rfl ?_
    exact HEV.out
  have y2 : ((x4.l.length : Int) == 0) = false := by rw [beq_eq_false_iff_ne]; omega
  obtain ⟨v0, v1, v2, v3, v4, v5, v6, v7, v8⟩ := S.out.b9.cells
  have CW := Go.Lib.hid (fun vv W (h : Attrs W vv a) => well_any vv a W h)
  cases hw : wellB a.has with
  | false =>
    obtain ⟨kk, -, -, hkk⟩ := wellN_no hw
    have hcode : (wellN a.has).code = 3 := by rw [hkk]
    have HD := Go.Lib.hid (show decU b = .inl (wellN a.has) from by rw [HD3.out]; unfold decU3; rw [if_neg (fun e => k2 (by rw [e]; rfl)), if_pos hw])
    have y1 : (((wellN a.has).code : Int) != 0) = true := by rw [hcode]; rfl
    clear hw hkk hcode HD3 k2
    generalize wellN a.has = m at CW HD y1
    go_upto_region 11 with ((have tok := T9.out; go_at_call 47; first | (refine (CL.out _ _ _ S.out.ud.rd).mono ?_; rintro e zl ⟨rfl, hb⟩; replace S := Go.Lib.hid (S.out.below hb); replace NO := Go.Lib.hid (NO.out.keep hb); clear hb tok T9 q0 q1 q2 v0 v1 v2 v3 v4 v5 v6 v7 v8; obtain ⟨q0, q1, q2⟩ := S.out.b3.cells; obtain ⟨v0, v1, v2, v3, v4, v5, v6, v7, v8⟩ := S.out.b9.cells) | (trace "FELL Left"; trace_state; fail_if_success skip)))
    go_cut [] (fun wx => ∃ (Ad : Option Addr) (nd cd : Nat), Hid (UpSt w z0.heap.size br x4 L Ag cg a m.code m.sub (.slice Ap np cp) (.slice Ac nc c3) (.slice Ad nd cd) X wx) ∧ Hid (Note wx (.agg #[.int .i64 m.code, .int .i64 m.sub, .slice Ad nd cd]) m))
    case first =>
      go_wp2_with (first
        | (have h := S.out; go_at_call 28; first | (refine (CW.out _ _ h.attrs.attrs).mono ?_; rintro e xw ⟨v2, rfl, hN, hb⟩; obtain ⟨vd2, rfl, hD⟩ := note_form hN; obtain ⟨Aw, cw, rfl, -, -⟩ := hD.form; have S9 := Go.Lib.hid (h.below hb); have NW := Go.Lib.hid hN; clear hN hb hD h S) | (trace "FELL WL"; trace_state; fail_if_success skip))
        | (have h := S9.out.b3.blk; refine wpList_store_row rfl 41 (.tmp 9) (.tmp 50) rfl (X.heap.size + 1) #[.int .i64 m.code, .int .i64 m.sub, .slice Aw m.data.length cw] rfl rfl _ _ h (by kernel_rfl) rfl (by simp [Value.oneCell']) ?_; clear h))
      go_meet
      exact ⟨_, _, _, Go.Lib.hid (S9.out.note _ _ _), Go.Lib.hid (note_apart NW.out (S9.out.b3.no8 (no8_i _) (no8_i _) (no8_s _ _ _)) (fun k hk => setRow_other _ _ _ _ hk) (by simp))⟩
    case rest =>
    clear q0 q1 q2 v0 v1 v2 v3 v4 v5 v6 v7 v8 S NO
    obtain ⟨Ad, nd, cd, S, NO⟩ := hcut
    obtain ⟨q0, q1, q2⟩ := S.out.b3.cells
    have hwB : w.heap.size + 2 ≤ X.heap.size := by have := S.out.hn; have := S.out.ud.ge; omega
    have p0 := (cell_setRow_other wc.drew w.heap.size #[.slice none 0 0, .int .i64 0, .int .i64 0, .slice none 0 0, .int .u32 0, .int .u32 0, .int .u32 0, .int .u32 0, .int .u32 0, .slice none 0 0, .slice none 0 0] ⟨X.heap.size + 1, 0, none⟩ (by show X.heap.size + 1 ≠ w.heap.size; omega)).trans q0
    have p1 := (cell_setRow_other wc.drew w.heap.size #[.slice none 0 0, .int .i64 0, .int .i64 0, .slice none 0 0, .int .u32 0, .int .u32 0, .int .u32 0, .int .u32 0, .int .u32 0, .slice none 0 0, .slice none 0 0] ⟨X.heap.size + 1, 1, none⟩ (by show X.heap.size + 1 ≠ w.heap.size; omega)).trans q1
    have p2 := (cell_setRow_other wc.drew w.heap.size #[.slice none 0 0, .int .i64 0, .int .i64 0, .slice none 0 0, .int .u32 0, .int .u32 0, .int .u32 0, .int .u32 0, .int .u32 0, .slice none 0 0, .slice none 0 0] ⟨X.heap.size + 1, 2, none⟩ (by show X.heap.size + 1 ≠ w.heap.size; omega)).trans q2
    have KU := Go.Lib.hid (show wc.drew.heap[w.heap.size]? = some (.cells #[.slice none 0 0, .int .i64 0, .int .i64 0, .slice none 0 0, .int .u32 0, .int .u32 0, .int .u32 0, .int .u32 0, .int .u32 0, .slice none 0 0, .slice none 0 0] 29 (0, 0)) from S.out.ud.ru.ru.blk)
    have KN := Go.Lib.hid (show (wc.drew.setRow w.heap.size #[.slice none 0 0, .int .i64 0, .int .i64 0, .slice none 0 0, .int .u32 0, .int .u32 0, .int .u32 0, .int .u32 0, .int .u32 0, .slice none 0 0, .slice none 0 0]).heap[w.heap.size + 1]? = some (.cells #[.int .i64 0, .int .i64 0, .slice none 0 0] 41 (0, 0)) from (setRow_other wc.drew w.heap.size (w.heap.size + 1) _ (by omega)).trans S.out.ud.ru.r3.blk)
    clear hwB
    go_upto_region 13 with fail
    go_cut [] (fun wx => wx = endZ w wc.drew (.int .i64 m.code) (.int .i64 m.sub) (.slice Ad nd cd))
    case first =>
      refine wp_region_any (by kernel_rfl) ?_
      change wpAny _ _ _ _ _ _ _ (World.drew _)
      refine wpAny_take (i := 0) (v := .agg #[.slice none 0 0, .int .i64 0, .int .i64 0, .slice none 0 0, .int .u32 0, .int .u32 0, .int .u32 0, .int .u32 0, .int .u32 0, .slice none 0 0, .slice none 0 0]) rfl (by kernel_rfl) (by kernel_rfl) (by kernel_rfl) (fun _ _ _ h => h) (Or.inl ⟨by rfl, by intro w; go_simp; try with_reducible rfl⟩) ?_
      refine wpAny_ready (rs := [1, 2]) (by kernel_rfl) (by simp) ?_
      refine AllReady.cons (o := ⟨some 55, .load 41 (.tmp 9), 41, "bytes.go:51", #[⟨2, .gcOnly .lateStores⟩], none⟩) rfl (fun K hK => ?_) (AllReady.cons  rfl (fun K hK => ?_) AllReady.nil)
      · go_simp
        refine hK _ _ ?_
        clear hK K
        refine wpAny_ready (rs := [2]) (by kernel_rfl) (by simp) ?_
        refine AllReady.cons  rfl (fun K hK => ?_) AllReady.nil
        rw [if_pos (by rfl)]
        refine wp_store_row 29 (.tmp 2) (.tmp 54) rfl w.heap.size #[.slice none 0 0, .int .i64 0, .int .i64 0, .slice none 0 0, .int .u32 0, .int .u32 0, .int .u32 0, .int .u32 0, .int .u32 0, .slice none 0 0, .slice none 0 0] rfl rfl _ _ KU.out (by kernel_rfl) rfl (by simp [Value.oneCell']) ?_
        refine hK _ _ ?_
        clear hK K
        refine wpAny_ready (rs := [3]) (by kernel_rfl) (by simp) ?_
        refine AllReady.cons  rfl (fun K hK => ?_) AllReady.nil
        rw [if_pos (by rfl)]
        refine wp_store_row 41 (.tmp 3) (.tmp 55) rfl (w.heap.size + 1) #[.int .i64 m.code, .int .i64 m.sub, .slice Ad nd cd] rfl rfl _ _ KN.out (by kernel_rfl) rfl (by simp [Value.oneCell']) ?_
        refine hK _ _ ?_
        clear hK K
        refine wpAny_done (by kernel_rfl) ?_ _
        go_wp2_with fail
        go_meet
        rfl
      · rw [if_pos (by rfl)]
        refine wp_store_row 29 (.tmp 2) (.tmp 54) rfl w.heap.size #[.slice none 0 0, .int .i64 0, .int .i64 0, .slice none 0 0, .int .u32 0, .int .u32 0, .int .u32 0, .int .u32 0, .int .u32 0, .slice none 0 0, .slice none 0 0] rfl rfl _ _ KU.out (by kernel_rfl) rfl (by simp [Value.oneCell']) ?_
        refine hK _ _ ?_
        clear hK K
        refine wpAny_ready (rs := [1]) (by kernel_rfl) (by simp) ?_
        refine AllReady.cons (o := ⟨some 55, .load 41 (.tmp 9), 41, "bytes.go:51", #[⟨2, .gcOnly .lateStores⟩], none⟩) rfl (fun K hK => ?_) AllReady.nil
        go_simp
        refine hK _ _ ?_
        clear hK K
        refine wpAny_ready (rs := [3]) (by kernel_rfl) (by simp) ?_
        refine AllReady.cons  rfl (fun K hK => ?_) AllReady.nil
        rw [if_pos (by rfl)]
        refine wp_store_row 41 (.tmp 3) (.tmp 55) rfl (w.heap.size + 1) #[.int .i64 m.code, .int .i64 m.sub, .slice Ad nd cd] rfl rfl _ _ KN.out (by kernel_rfl) rfl (by simp [Value.oneCell']) ?_
        refine hK _ _ ?_
        clear hK K
        refine wpAny_done (by kernel_rfl) ?_ _
        go_wp2_with fail
        go_meet
        rfl
    case rest =>
    subst hcut
    have RD := Go.Lib.hid (S.out.ud.ru.below (Below.refl _ wc).drew)
    have NO2 := Go.Lib.hid (NO.out.keep (Below.refl _ wc).drew)
    obtain ⟨⟨r0, r1, r2, r3, r4, r5, r6, r7, r8, r9, r10⟩, t0, t1, t2⟩ := RD.out.finZ (.int .i64 m.code) (.int .i64 m.sub) (.slice Ad nd cd)
    clear KU KN p0 p1 p2 q0 q1 q2 S y1 NO
    have HEV := Go.Lib.hid (RD.out.badN HD.out NO2.out)
    generalize endZ w wc.drew (.int .i64 m.code) (.int .i64 m.sub) (.slice Ad nd cd) = WE at r0 r1 r2 r3 r4 r5 r6 r7 r8 r9 r10 t0 t1 t2 HEV ⊢
    go_wp2_with fail
    (try simp only [Exit.inBlock, Exit.then])
    refine bodyPost_ret (v := .tuple #[.agg #[.slice none 0 0, .int .i64 0, .int .i64 0, .slice none 0 0, .int .u32 0, .int .u32 0, .int .u32 0, .int .u32 0, .int .u32 0, .slice none 0 0, .slice none 0 0], .agg #[.int .i64 m.code, .int .i64 m.sub, .slice Ad nd cd]]) (by simp [results, Tryz.results14, go_sem, r0, r1, r2, r3, r4, r5, r6, r7, r8, r9, r10, t0, t1, t2]) rfl ?_
    exact HEV.out
  | true =>
  have hwn := wellN_yes hw
  have HD4 := Go.Lib.hid (show decU b = (match dec val x4.l with | none => .inl ⟨3, 10, []⟩ | some h => .inr ⟨L, a, h⟩) from by rw [HD3.out]; unfold decU3; rw [if_neg (fun e => k2 (by rw [e]; rfl)), if_neg (by rw [hw]; decide)]; cases dec val x4.l <;> rfl)
  rw [hwn] at CW
  clear hw hwn HD3 k2
  go_upto_region 11 with ((have tok := T9.out; go_at_call 47; first | (refine (CL.out _ _ _ S.out.ud.rd).mono ?_; rintro e zl ⟨rfl, hb⟩; replace S := Go.Lib.hid (S.out.below hb); replace NO := Go.Lib.hid (NO.out.keep hb); clear hb tok T9 q0 q1 q2 v0 v1 v2 v3 v4 v5 v6 v7 v8; obtain ⟨q0, q1, q2⟩ := S.out.b3.cells; obtain ⟨v0, v1, v2, v3, v4, v5, v6, v7, v8⟩ := S.out.b9.cells) | (trace "FELL Left"; trace_state; fail_if_success skip)))
  go_cut [] (fun wx => ∃ (Ad : Option Addr) (nd cd : Nat), Hid (UpSt w z0.heap.size br x4 L Ag cg a 0 0 (.slice Ap np cp) (.slice Ac nc c3) (.slice Ad nd cd) X wx) ∧ Hid (Note wx (.agg #[.int .i64 0, .int .i64 0, .slice Ad nd cd]) ⟨0, 0, []⟩))
  case first =>
    go_wp2_with (first
      | (have h := S.out; go_at_call 28; first | (refine (CW.out _ _ h.attrs.attrs).mono ?_; rintro e xw ⟨v2, rfl, hN, hb⟩; obtain ⟨vd2, rfl, hD⟩ := note_form hN; obtain ⟨Aw, cw, rfl, -, -⟩ := hD.form; have S9 := Go.Lib.hid (h.below hb); have NW := Go.Lib.hid hN; clear hN hb hD h S) | (trace "FELL WL"; trace_state; fail_if_success skip))
      | (have h := S9.out.b3.blk; refine wpList_store_row rfl 41 (.tmp 9) (.tmp 50) rfl (X.heap.size + 1) #[.int .i64 0, .int .i64 0, .slice Aw 0 cw] rfl rfl _ _ h (by kernel_rfl) rfl (by simp [Value.oneCell']) ?_; clear h))
    go_meet
    exact ⟨_, _, _, Go.Lib.hid (S9.out.note _ _ _), Go.Lib.hid (note_apart NW.out (S9.out.b3.no8 (no8_i _) (no8_i _) (no8_s _ _ _)) (fun k hk => setRow_other _ _ _ _ hk) (by simp))⟩
  case rest =>
  clear q0 q1 q2 v0 v1 v2 v3 v4 v5 v6 v7 v8 S NO
  obtain ⟨Ad, nd, cd, S, NO⟩ := hcut
  obtain ⟨q0, q1, q2⟩ := S.out.b3.cells
  have CR := Go.Lib.hid (fun n br W (h : R W (w.heap.size + 2) n (.pointer (some ⟨br, 0, none⟩)) x4.l x4.b (fun k => k = br)) => show Calls Tryz.prog 48 #[.pointer (some ⟨br, 0, none⟩)] W (fun e w' => ∃ (y : Rd) (A : Option Addr) (c : Nat), e = .returned (.slice A x4.l.length c) ∧ U8s w' (.slice A x4.l.length c) x4.l ∧ R w' (w.heap.size + 2) n (.pointer (some ⟨br, 0, none⟩)) y.l y.b (fun k => k = br) ∧ Only (fun k => k = br) W w') from (rest_any _ _ n x4.l x4.b _ W (by omega) h).mono fun e w' ⟨A, c, k1, k2, k3, k4⟩ => by
    have eg : got x4.l x4.b x4.l.length = x4.l := by rw [HB4.out, (fit_go (Nat.le_refl _)).2, List.take_length]
    rw [eg] at k1 k2
    exact ⟨x4.go x4.l.length, A, c, k1, k2, k3, k4⟩)
  have CD2 := Go.Lib.hid (fun vv W (h : U8s W vv x4.l) => (decode_own vv x4.l W h (by omega)).mono fun _ _ h => decO_of h)
  go_upto_region 15 with (first
    | (have h := S.out; go_at_call 48; first | (refine (CR.out _ _ _ h.ud.rd).mono ?_; rintro e zr ⟨y, A6, c6, rfl, hU, hR, ho⟩; have S11 := Go.Lib.hid (h.read (y := y) hR ho); have NO11 := Go.Lib.hid (show Note zr (.agg #[.int .i64 0, .int .i64 0, .slice Ad nd cd]) ⟨0, 0, []⟩ from note_nil (n := ⟨0, 0, []⟩) NO.out rfl); have U11 := Go.Lib.hid hU; clear hU hR ho h S NO) | (trace "FELL RS"; trace_state; fail_if_success skip))
    | (have h := S11.out; go_at_call 41; first | (refine (CD2.out _ _ U11.out).mono ?_; rintro e z9 ⟨Ah, mh, ch, er2, rfl, hGO, hb⟩; have GH := Go.Lib.hid (hGO.lower h.ud.le); have S12 := Go.Lib.hid (h.below hb); have NO12 := Go.Lib.hid (NO11.out.keep hb); clear hGO hb h S11 U11 NO11) | (trace "FELL ND2"; trace_state; fail_if_success skip)))
  rcases GH.out with ⟨hd, rfl⟩ | ⟨H, Ah2, ch2, hd, rfl, hvh, hown, hokh⟩
  · have HD := Go.Lib.hid (show decU b = .inl ⟨3, (10 : Nat), []⟩ from by rw [HD4.out, hd]; rfl)
    clear hd GH NO12 q0 q1 q2
    go_wp2_with (first
      | (go_at_call 45; first | (refine (CF.out _ _).mono ?_; rintro e zf ⟨rfl, hb⟩; have SZ := Go.Lib.hid (S12.out.ud.ru.below hb); clear hb) | (trace "FELL F"; trace_state; fail_if_success skip))
      | (have h := SZ.out; refine wpList_store_row rfl 29 (.tmp 2) (.tmp 64) rfl w.heap.size #[.slice none 0 0, .int .i64 0, .int .i64 0, .slice none 0 0, .int .u32 0, .int .u32 0, .int .u32 0, .int .u32 0, .int .u32 0, .slice none 0 0, .slice none 0 0] rfl rfl _ _ h.ru.blk (by kernel_rfl) rfl (by simp [Value.oneCell']) ?_; clear h; have SM := Go.Lib.hid (SZ.out.mid #[.slice none 0 0, .int .i64 0, .int .i64 0, .slice none 0 0, .int .u32 0, .int .u32 0, .int .u32 0, .int .u32 0, .int .u32 0, .slice none 0 0, .slice none 0 0]))
      | (have h := SM.out; refine wpList_store_row rfl 41 (.tmp 3) (.tmp 65) rfl (w.heap.size + 1) #[.int .i64 3, .int .i64 10, .slice none 0 0] rfl rfl _ _ h (by kernel_rfl) rfl (by simp [Value.oneCell']) ?_; clear h; clear SM))
    (try simp only [Exit.inBlock, Exit.then])
    obtain ⟨⟨r0, r1, r2, r3, r4, r5, r6, r7, r8, r9, r10⟩, t0, t1, t2⟩ := SZ.out.finZ (.int .i64 3) (.int .i64 10) (.slice none 0 0)
    unfold endZ at r0 r1 r2 r3 r4 r5 r6 r7 r8 r9 r10 t0 t1 t2
    refine bodyPost_ret (v := .tuple #[.agg #[.slice none 0 0, .int .i64 0, .int .i64 0, .slice none 0 0, .int .u32 0, .int .u32 0, .int .u32 0, .int .u32 0, .int .u32 0, .slice none 0 0, .slice none 0 0], .agg #[.int .i64 3, .int .i64 10, .slice none 0 0]]) (by simp [results, Tryz.results14, go_sem, r0, r1, r2, r3, r4, r5, r6, r7, r8, r9, r10, t0, t1, t2]) rfl ?_
    exact SZ.out.bad0 (s := 10) HD.out rfl (by decide)
  injection hvh with hv1 hv2 hv3
  subst hv1 hv2 hv3
  have HH := Go.Lib.hid (And.intro hown hokh)
  have HD := Go.Lib.hid (show decU b = .inr ⟨L, a, H⟩ from by rw [HD4.out, hd])
  have S := Go.Lib.hid S12.out
  have NO := Go.Lib.hid NO12.out
  clear hd GH hown hokh HD4 S12 NO12 q0 q1 q2
  obtain ⟨q0, q1, q2⟩ := S.out.b3.cells
  obtain ⟨v0, v1, v2, v3, v4, v5, v6, v7, v8⟩ := S.out.b9.cells
  go_upto_region 17 with fail
  have hwB : w.heap.size + 2 ≤ X.heap.size := by have := S.out.hn; have := S.out.ud.ge; omega
  have p0 := (cell_setRow_other z9.drew w.heap.size #[.slice Ag L.length cg, .int .i64 a.has, .int .i64 a.origin, .slice Ap np cp, .int .u32 a.hop, .int .u32 a.med, .int .u32 a.pref, .int .u32 a.aas, .int .u32 a.aid, .slice Ac nc c3, .slice Ah H.length ch] ⟨X.heap.size + 1, 0, none⟩ (by show X.heap.size + 1 ≠ w.heap.size; omega)).trans q0
  have p1 := (cell_setRow_other z9.drew w.heap.size #[.slice Ag L.length cg, .int .i64 a.has, .int .i64 a.origin, .slice Ap np cp, .int .u32 a.hop, .int .u32 a.med, .int .u32 a.pref, .int .u32 a.aas, .int .u32 a.aid, .slice Ac nc c3, .slice Ah H.length ch] ⟨X.heap.size + 1, 1, none⟩ (by show X.heap.size + 1 ≠ w.heap.size; omega)).trans q1
  have p2 := (cell_setRow_other z9.drew w.heap.size #[.slice Ag L.length cg, .int .i64 a.has, .int .i64 a.origin, .slice Ap np cp, .int .u32 a.hop, .int .u32 a.med, .int .u32 a.pref, .int .u32 a.aas, .int .u32 a.aid, .slice Ac nc c3, .slice Ah H.length ch] ⟨X.heap.size + 1, 2, none⟩ (by show X.heap.size + 1 ≠ w.heap.size; omega)).trans q2
  have KU := Go.Lib.hid (show z9.drew.heap[w.heap.size]? = some (.cells #[.slice none 0 0, .int .i64 0, .int .i64 0, .slice none 0 0, .int .u32 0, .int .u32 0, .int .u32 0, .int .u32 0, .int .u32 0, .slice none 0 0, .slice none 0 0] 29 (0, 0)) from S.out.ud.ru.ru.blk)
  have KN := Go.Lib.hid (show (z9.drew.setRow w.heap.size #[.slice Ag L.length cg, .int .i64 a.has, .int .i64 a.origin, .slice Ap np cp, .int .u32 a.hop, .int .u32 a.med, .int .u32 a.pref, .int .u32 a.aas, .int .u32 a.aid, .slice Ac nc c3, .slice Ah H.length ch]).heap[w.heap.size + 1]? = some (.cells #[.int .i64 0, .int .i64 0, .slice none 0 0] 41 (0, 0)) from (setRow_other z9.drew w.heap.size (w.heap.size + 1) _ (by omega)).trans S.out.ud.ru.r3.blk)
  clear hwB
  go_cut [] (fun wx => wx = endU w z9.drew a (.slice Ag L.length cg) (.slice Ap np cp) (.slice Ac nc c3) (.slice Ah H.length ch) (.int .i64 0) (.int .i64 0) (.slice Ad nd cd))
  case first =>
    refine wp_region_any (by kernel_rfl) ?_
    change wpAny _ _ _ _ _ _ _ (World.drew _)
    refine wpAny_take (i := 0) (v := .slice Ag L.length cg) rfl (by kernel_rfl) (by kernel_rfl) (by kernel_rfl) (fun _ _ _ h => h) (Or.inl ⟨by rfl, by intro w; go_simp; try with_reducible rfl⟩) ?_
    refine wpAny_take (i := 2) (v := .slice Ah H.length ch) rfl (by kernel_rfl) (by kernel_rfl) (by kernel_rfl) (fun _ _ _ h => h) (Or.inl ⟨by rfl, by intro w; go_simp; try with_reducible rfl⟩) ?_
    refine wpAny_ready (rs := [1, 4]) (by kernel_rfl) (by simp) ?_
    refine AllReady.cons (o := ⟨some 67, .load 27 (.tmp 8), 27, "bytes.go:57", #[], none⟩) rfl (fun K hK => ?_) (AllReady.cons (o := ⟨some 70, .load 41 (.tmp 9), 41, "bytes.go:57", #[⟨5, .gcOnly .lateStores⟩], none⟩) rfl (fun K hK => ?_) AllReady.nil)
    · go_simp
      refine hK _ _ ?_
      clear hK K
      refine wpAny_take (i := 3) (v := .agg #[.slice Ag L.length cg, .int .i64 a.has, .int .i64 a.origin, .slice Ap np cp, .int .u32 a.hop, .int .u32 a.med, .int .u32 a.pref, .int .u32 a.aas, .int .u32 a.aid, .slice Ac nc c3, .slice Ah H.length ch]) rfl (by kernel_rfl) (by kernel_rfl) (by kernel_rfl) (fun _ _ _ h => h) (Or.inl ⟨by rfl, by intro w; go_simp; try with_reducible rfl⟩) ?_
      refine wpAny_ready (rs := [4, 5]) (by kernel_rfl) (by simp) ?_
      refine AllReady.cons (o := ⟨some 70, .load 41 (.tmp 9), 41, "bytes.go:57", #[⟨5, .gcOnly .lateStores⟩], none⟩) rfl (fun K hK => ?_) (AllReady.cons  rfl (fun K hK => ?_) AllReady.nil)
      · go_simp
        refine hK _ _ ?_
        clear hK K
        refine wpAny_ready (rs := [5]) (by kernel_rfl) (by simp) ?_
        refine AllReady.cons  rfl (fun K hK => ?_) AllReady.nil
        rw [if_pos (by rfl)]
        refine wp_store_row 29 (.tmp 2) (.tmp 69) rfl w.heap.size #[.slice Ag L.length cg, .int .i64 a.has, .int .i64 a.origin, .slice Ap np cp, .int .u32 a.hop, .int .u32 a.med, .int .u32 a.pref, .int .u32 a.aas, .int .u32 a.aid, .slice Ac nc c3, .slice Ah H.length ch] rfl rfl _ _ KU.out (by kernel_rfl) rfl (by simp [Value.oneCell']) ?_
        refine hK _ _ ?_
        clear hK K
        refine wpAny_ready (rs := [6]) (by kernel_rfl) (by simp) ?_
        refine AllReady.cons  rfl (fun K hK => ?_) AllReady.nil
        rw [if_pos (by rfl)]
        refine wp_store_row 41 (.tmp 3) (.tmp 70) rfl (w.heap.size + 1) #[.int .i64 0, .int .i64 0, .slice Ad nd cd] rfl rfl _ _ KN.out (by kernel_rfl) rfl (by simp [Value.oneCell']) ?_
        refine hK _ _ ?_
        clear hK K
        refine wpAny_done (by kernel_rfl) ?_ _
        go_wp2_with fail
        go_meet
        rfl
      · rw [if_pos (by rfl)]
        refine wp_store_row 29 (.tmp 2) (.tmp 69) rfl w.heap.size #[.slice Ag L.length cg, .int .i64 a.has, .int .i64 a.origin, .slice Ap np cp, .int .u32 a.hop, .int .u32 a.med, .int .u32 a.pref, .int .u32 a.aas, .int .u32 a.aid, .slice Ac nc c3, .slice Ah H.length ch] rfl rfl _ _ KU.out (by kernel_rfl) rfl (by simp [Value.oneCell']) ?_
        refine hK _ _ ?_
        clear hK K
        refine wpAny_ready (rs := [4]) (by kernel_rfl) (by simp) ?_
        refine AllReady.cons (o := ⟨some 70, .load 41 (.tmp 9), 41, "bytes.go:57", #[⟨5, .gcOnly .lateStores⟩], none⟩) rfl (fun K hK => ?_) AllReady.nil
        go_simp
        refine hK _ _ ?_
        clear hK K
        refine wpAny_ready (rs := [6]) (by kernel_rfl) (by simp) ?_
        refine AllReady.cons  rfl (fun K hK => ?_) AllReady.nil
        rw [if_pos (by rfl)]
        refine wp_store_row 41 (.tmp 3) (.tmp 70) rfl (w.heap.size + 1) #[.int .i64 0, .int .i64 0, .slice Ad nd cd] rfl rfl _ _ KN.out (by kernel_rfl) rfl (by simp [Value.oneCell']) ?_
        refine hK _ _ ?_
        clear hK K
        refine wpAny_done (by kernel_rfl) ?_ _
        go_wp2_with fail
        go_meet
        rfl
    · go_simp
      refine hK _ _ ?_
      clear hK K
      refine wpAny_ready (rs := [1]) (by kernel_rfl) (by simp) ?_
      refine AllReady.cons (o := ⟨some 67, .load 27 (.tmp 8), 27, "bytes.go:57", #[], none⟩) rfl (fun K hK => ?_) AllReady.nil
      go_simp
      refine hK _ _ ?_
      clear hK K
      refine wpAny_take (i := 3) (v := .agg #[.slice Ag L.length cg, .int .i64 a.has, .int .i64 a.origin, .slice Ap np cp, .int .u32 a.hop, .int .u32 a.med, .int .u32 a.pref, .int .u32 a.aas, .int .u32 a.aid, .slice Ac nc c3, .slice Ah H.length ch]) rfl (by kernel_rfl) (by kernel_rfl) (by kernel_rfl) (fun _ _ _ h => h) (Or.inl ⟨by rfl, by intro w; go_simp; try with_reducible rfl⟩) ?_
      refine wpAny_ready (rs := [5]) (by kernel_rfl) (by simp) ?_
      refine AllReady.cons  rfl (fun K hK => ?_) AllReady.nil
      rw [if_pos (by rfl)]
      refine wp_store_row 29 (.tmp 2) (.tmp 69) rfl w.heap.size #[.slice Ag L.length cg, .int .i64 a.has, .int .i64 a.origin, .slice Ap np cp, .int .u32 a.hop, .int .u32 a.med, .int .u32 a.pref, .int .u32 a.aas, .int .u32 a.aid, .slice Ac nc c3, .slice Ah H.length ch] rfl rfl _ _ KU.out (by kernel_rfl) rfl (by simp [Value.oneCell']) ?_
      refine hK _ _ ?_
      clear hK K
      refine wpAny_ready (rs := [6]) (by kernel_rfl) (by simp) ?_
      refine AllReady.cons  rfl (fun K hK => ?_) AllReady.nil
      rw [if_pos (by rfl)]
      refine wp_store_row 41 (.tmp 3) (.tmp 70) rfl (w.heap.size + 1) #[.int .i64 0, .int .i64 0, .slice Ad nd cd] rfl rfl _ _ KN.out (by kernel_rfl) rfl (by simp [Value.oneCell']) ?_
      refine hK _ _ ?_
      clear hK K
      refine wpAny_done (by kernel_rfl) ?_ _
      go_wp2_with fail
      go_meet
      rfl
  case rest =>
  subst hcut
  have RD := Go.Lib.hid (S.out.ud.ru.below (Below.refl _ z9).drew)
  have NO2 := Go.Lib.hid (NO.out.keep (Below.refl _ z9).drew)
  have hge := S.out.ud.ge
  have HU := Go.Lib.hid (show UpdF z0.heap.size z9.drew (uV a (.slice Ag L.length cg) (.slice Ap np cp) (.slice Ac nc c3) (.slice Ah H.length ch)) ⟨L, a, H⟩ from updF_of (own_keep S.out.gone (Below.refl _ z9).drew) HOK.out (atF_keep S.out.attrs (Below.refl _ z9).drew) (own_keep HH.out.1 (Below.refl _ z9).drew) HH.out.2)
  obtain ⟨f0, f1, -⟩ := RD.out.fin a (.slice Ag L.length cg) (.slice Ap np cp) (.slice Ac nc c3) (.slice Ah H.length ch) (.int .i64 0) (.int .i64 0) (.slice Ad nd cd)
  obtain ⟨r0, r1, r2, r3, r4, r5, r6, r7, r8, r9, r10⟩ := f0.cells
  obtain ⟨t0, t1, t2⟩ := f1.cells
  clear f0 f1 KU KN p0 p1 p2 q0 q1 q2 S NO
  have HEV := Go.Lib.hid (RD.out.okN (b := b) (u := ⟨L, a, H⟩) (base := z0.heap.size) (by omega) HU.out NO2.out HD.out)
  dsimp only at HEV
  clear hge
  generalize endU w z9.drew a (.slice Ag L.length cg) (.slice Ap np cp) (.slice Ac nc c3) (.slice Ah H.length ch) (.int .i64 0) (.int .i64 0) (.slice Ad nd cd) = WE at r0 r1 r2 r3 r4 r5 r6 r7 r8 r9 r10 t0 t1 t2 HEV ⊢
  go_wp2_with fail
  (try simp only [Exit.inBlock, Exit.then])
  refine bodyPost_ret (v := .tuple #[.agg #[.slice Ag L.length cg, .int .i64 a.has, .int .i64 a.origin, .slice Ap np cp, .int .u32 a.hop, .int .u32 a.med, .int .u32 a.pref, .int .u32 a.aas, .int .u32 a.aid, .slice Ac nc c3, .slice Ah H.length ch], .agg #[.int .i64 0, .int .i64 0, .slice Ad nd cd]]) (by simp [results, Tryz.results14, go_sem, r0, r1, r2, r3, r4, r5, r6, r7, r8, r9, r10, t0, t1, t2]) rfl ?_
  exact HEV.out
end Go.Proofs.YtlhdjdnflpilbaaGreatDoor.Upd
