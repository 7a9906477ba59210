/- TallyPlays: what is asked behind each call is told as the rows say. -/
import Derived.Test.YtifaclbafmpiiaaPlayKit
namespace Go.Proofs.Ytifaclbafmpiiaa.Tal
open Go.RowKit Mem Go.Maps

theorem idx_own : ∀ {L : List Cnt} {k : Nat} {r : Cnt}, Sorted L → L[k]? = some r → idx L r.key = some k
  | [], k, r, _, h => by simp at h
  | x :: L, 0, r, _, h => by
    obtain rfl : x = r := by simpa using h
    rw [idx_cons, if_pos rfl]
  | x :: L, k + 1, r, hs, h => by
    obtain ⟨h1, h2⟩ := sorted_cons.1 hs
    have hr : L[k]? = some r := by simpa using h
    have := h1 r (List.mem_of_getElem? hr)
    rw [idx_cons, if_neg (by omega), idx_own h2 hr]; rfl
theorem sum_snoc {g : Cnt → Nat} {L : List Cnt} {k : Nat} {r : Cnt} (h : L[k]? = some r) : sumG g (L.take (k + 1)) = sumG g (L.take k) + g r := by
  rw [List.take_add_one, h]; simp [sumG]
theorem sum_take {g : Cnt → Nat} {m : Nat} {L : List Cnt} (k : Nat) (h : ∀ r ∈ L, g r ≤ m) : sumG g (L.take k) ≤ L.length * m :=
  Nat.le_trans (sum_le fun r hr => h r (List.mem_of_mem_take hr)) (Nat.mul_le_mul_right _ (by rw [List.length_take]; omega))

set_option maxRecDepth 1000000 in
set_option maxHeartbeats 8000000 in
theorem chk_any (u0 u2 u3 u4 u5 u7 u8 u9 u10 u11 u12 u13 u14 u15 u16 u17 u18 u19 u20 u21 u22 u23 u24 u25 u26 u27 u28 u29 u30 u31 u32 u33 u34 u35 u36 u37 u38 u39 u40 u41 u42 u43 u44 u45 u46 u47 u48 u49 u50 u51 u52 u53 u54 u55 u56 u57 u58 u59 u60 u61 u62 u63 u64 u65 u66 u67 u68 u69 u70 u71 u72 u73 u74 u75 u76 u77 u78 u79 u80 u81 u82 u83 u84 u85 u86 u87 u88 u89 u90 u91 u92 u93 u94 u95 u96 u97 u98 u99 u100 u101 u102 u103 u104 u105 u106 u107 u108 u109 u110 u111 u112 u113 u114 u115 u116 u117 u118 u119 u120 u121 u122 u123 u124 u125 u126 u127 u128 u129 u130 u131 u132 u133 u134 u135 u136 u137 u138 u139 u140 u141 u142 u143 u144 u145 u146 u147 u148 u149 u150 u151 u152 u153 u154 u155 u156 u157 u158 u159 u160 u161 u162 u163 u164 u165 u166 u167 u168 u169 u170 u171 u172 u173 u174 u175 u176 u177 u178 u179 u180 u181 u182 u183 u184 u185 u186 u187 u188 u189 u190 u191 u192 u193 u194 u195 u196 u197 u198 u199 u200 u201 u202 u203 u204 u205 u206 u207 u208 u209 u210 u211 u212 u213 u214 u215 u216 u217 u218 u219 u220 u221 u222 u223 u224 : Value) (ask : Nat) (A : Option Addr) (c : Nat) (L : List Cnt) (F : Nat → Prop) (ws : World) (Q : Exit → Go.Act → World → Prop)
    (hT : T ws u5 L F) (hC : Cnts ws (.slice A L.length c) L) (hlen : L.length ≤ 60) (hask : ask < 4294967296)
    (hK : ∀ (x4 x14 x15 x16 x17 x18 x19 x20 x21 x22 x23 x134 x135 x136 x137 x138 x139 x140 x141 x142 x143 x144 x145 x146 x147 x148 x149 x150 x151 x152 x153 x154 x155 x156 x157 x158 x159 x160 x161 x162 x163 x164 x165 x166 x167 x168 x169 x170 x171 x172 x173 x174 x175 x176 x177 x178 x179 x180 x181 x182 x183 x184 x185 x186 x187 x188 x189 x190 x191 x192 x193 x194 x195 x196 x197 x198 x199 x200 x201 x202 x203 x204 x205 x206 x207 x208 x209 x210 x211 x212 x213 x214 x215 x216 x217 x218 x219 x220 x221 x222 x223 : Value) (W : World), Below ws.heap.size ws W → Q .normal ⟨#[u0, .int .u32 ask, u2, u3, x4, u5, .slice A L.length c, u7, u8, u9, u10, u11, u12, u13, x14, x15, x16, x17, x18, x19, x20, x21, x22, x23, u24, u25, u26, u27, u28, u29, u30, u31, u32, u33, u34, u35, u36, u37, u38, u39, u40, u41, u42, u43, u44, u45, u46, u47, u48, u49, u50, u51, u52, u53, u54, u55, u56, u57, u58, u59, u60, u61, u62, u63, u64, u65, u66, u67, u68, u69, u70, u71, u72, u73, u74, u75, u76, u77, u78, u79, u80, u81, u82, u83, u84, u85, u86, u87, u88, u89, u90, u91, u92, u93, u94, u95, u96, u97, u98, u99, u100, u101, u102, u103, u104, u105, u106, u107, u108, u109, u110, u111, u112, u113, u114, u115, u116, u117, u118, u119, u120, u121, u122, u123, u124, u125, u126, u127, u128, u129, u130, u131, u132, u133, x134, x135, x136, x137, x138, x139, x140, x141, x142, x143, x144, x145, x146, x147, x148, x149, x150, x151, x152, x153, x154, x155, x156, x157, x158, x159, x160, x161, x162, x163, x164, x165, x166, x167, x168, x169, x170, x171, x172, x173, x174, x175, x176, x177, x178, x179, x180, x181, x182, x183, x184, x185, x186, x187, x188, x189, x190, x191, x192, x193, x194, x195, x196, x197, x198, x199, x200, x201, x202, x203, x204, x205, x206, x207, x208, x209, x210, x211, x212, x213, x214, x215, x216, x217, x218, x219, x220, x221, x222, x223, u224], []⟩ W) :
    Code.wp Try.prog chkC Q ⟨#[u0, .int .u32 ask, u2, u3, u4, u5, .slice A L.length c, u7, u8, u9, u10, u11, u12, u13, u14, u15, u16, u17, u18, u19, u20, u21, u22, u23, u24, u25, u26, u27, u28, u29, u30, u31, u32, u33, u34, u35, u36, u37, u38, u39, u40, u41, u42, u43, u44, u45, u46, u47, u48, u49, u50, u51, u52, u53, u54, u55, u56, u57, u58, u59, u60, u61, u62, u63, u64, u65, u66, u67, u68, u69, u70, u71, u72, u73, u74, u75, u76, u77, u78, u79, u80, u81, u82, u83, u84, u85, u86, u87, u88, u89, u90, u91, u92, u93, u94, u95, u96, u97, u98, u99, u100, u101, u102, u103, u104, u105, u106, u107, u108, u109, u110, u111, u112, u113, u114, u115, u116, u117, u118, u119, u120, u121, u122, u123, u124, u125, u126, u127, u128, u129, u130, u131, u132, u133, u134, u135, u136, u137, u138, u139, u140, u141, u142, u143, u144, u145, u146, u147, u148, u149, u150, u151, u152, u153, u154, u155, u156, u157, u158, u159, u160, u161, u162, u163, u164, u165, u166, u167, u168, u169, u170, u171, u172, u173, u174, u175, u176, u177, u178, u179, u180, u181, u182, u183, u184, u185, u186, u187, u188, u189, u190, u191, u192, u193, u194, u195, u196, u197, u198, u199, u200, u201, u202, u203, u204, u205, u206, u207, u208, u209, u210, u211, u212, u213, u214, u215, u216, u217, u218, u219, u220, u221, u222, u223, u224], []⟩ ws := by
  have CK0 := keys_any u5 L F ws hT (by omega)
  have HG := Go.Lib.hid hT.1
  have HT := Go.Lib.hid hT
  have HC := Go.Lib.hid hC
  have CO := Go.Lib.hid (fun (key : Nat) (W : World) (hk : key < 4294967296) (hb : Below ws.heap.size ws W) => of_any u5 L F key W hk (face_T.below hT hb))
  have CS := Go.Lib.hid (fun (W : World) (hb : Below ws.heap.size ws W) => sum_any u5 L F W (face_T.below hT hb))
  have CA := Go.Lib.hid (fun (W : World) (hb : Below ws.heap.size ws W) => at_any (.slice A L.length c) L ask W (hC.keep hb))
  have CK := Go.Lib.hid (CK0.mono fun e W h => show ∃ B d, e = .returned (.slice B L.length d) ∧ U32s W (.slice B L.length d) (keysL L) ∧ Below ws.heap.size ws W from by
    obtain ⟨v, he, hv, hbw⟩ := h
    obtain ⟨B, d, rfl, _⟩ := hv.open_
    have e1 : (keysL L).length = L.length := List.length_map ..
    rw [e1] at hv he
    exact ⟨B, d, he, hv, hbw⟩)
  have HU := Go.Lib.hid (fun k => sum_take (g := Cnt.up) (m := 549755813888) k (fun r hr => (hT.1.2.2.1 r hr).1))
  have HD := Go.Lib.hid (fun k => sum_take (g := Cnt.down) (m := 549755813888) k (fun r hr => (hT.1.2.2.1 r hr).2))
  have HA := Go.Lib.hid hask
  have HK := Go.Lib.hid hK
  clear CK0 hT hC hask hK
  conv => arg 2; whnf
  go_wp2_with (go_at_call 16; refine (CK.out).mono ?_; rintro e w1 ⟨B, d, rfl, hU1, hb1⟩; have H1 := Go.Lib.hid hU1; have B1 := Go.Lib.hid hb1; clear hU1 hb1)
  go_loopw [15, 16, 17] (fun v15 v16 v17 wx => ∃ k : Nat, k ≤ L.length ∧ v17 = .int .i64 k ∧ v15 = .int .i64 (sumG Cnt.up (L.take k)) ∧ v16 = .int .i64 (sumG Cnt.down (L.take k)) ∧ Below w1.heap.size w1 wx) (fun _ _ v17 _ => L.length - (intOf v17).toNat)
  case atStart => exact ⟨0, Nat.zero_le _, rfl, rfl, rfl, Below.refl _ _⟩
  case round =>
    obtain ⟨k, hk, rfl, rfl, rfl, hbx⟩ := hrel
    have hbw := B1.out.trans (hbx.mono B1.out.size)
    by_cases hlt : k < L.length
    · obtain ⟨r, hr⟩ : ∃ r, L[k]? = some r := ⟨_, List.getElem?_eq_getElem hlt⟩
      obtain ⟨b, off, rfl, hbl, k1, k2, k3⟩ := (HC.out).at_ hr
      obtain ⟨b2, off2, x, rfl, hb2l, hx, _, k4⟩ := (H1.out).at_ (k := k) (by rw [keysL, List.length_map]; exact hlt)
      obtain rfl : r.key = x := by rw [keysL, List.getElem?_map, hr] at hx; simpa using hx
      have hk32 : r.key < 4294967296 := HG.out.2.2.2 r (List.mem_of_getElem? hr)
      have C1 := CO.out r.key wr hk32 hbw
      rw [of_idx _ (idx_own HG.out.1 hr) hr, of_idx _ (idx_own HG.out.1 hr) hr] at C1
      have C1H := Go.Lib.hid C1
      have j1 := (hbw.cell (p := ⟨b, off + k * 3, none⟩) hbl).trans k1
      have HJ := Go.Lib.hid (fun (W : World) (h : Below wr.heap.size wr W) => (⟨((h.mono hbw.size).cell (p := ⟨b, off + k * 3, none⟩) hbl).trans j1, ((hbw.trans (h.mono hbw.size)).cell (p := ⟨b, off + k * 3 + 1, none⟩) hbl).trans k2, ((hbw.trans (h.mono hbw.size)).cell (p := ⟨b, off + k * 3 + 2, none⟩) hbl).trans k3, ((hbx.trans (h.mono hbx.size)).cell (p := ⟨b2, off2 + k, none⟩) hb2l).trans k4⟩ :
        W.cell? ⟨b, off + k * 3, none⟩ = some (.int .u32 r.key) ∧ W.cell? ⟨b, off + k * 3 + 1, none⟩ = some (.int .i64 r.up) ∧ W.cell? ⟨b, off + k * 3 + 2, none⟩ = some (.int .i64 r.down) ∧ W.cell? ⟨b2, off2 + k, none⟩ = some (.int .u32 r.key)))
      have z0 : (0 : Int) ≤ (k : Int) := by omega
      have z1 : (k : Int) < (L.length : Int) := by omega
      have eu := sum_snoc (g := Cnt.up) hr
      have ed := sum_snoc (g := Cnt.down) hr
      have bu := HU.out (k + 1)
      have bd := HD.out (k + 1)
      obtain ⟨U1, hU1⟩ : ∃ U1, U1 = sumG Cnt.up (L.take (k + 1)) := ⟨_, rfl⟩
      obtain ⟨D1, hD1⟩ : ∃ D1, D1 = sumG Cnt.down (L.take (k + 1)) := ⟨_, rfl⟩
      rw [← hU1] at eu bu
      rw [← hD1] at ed bd
      generalize sumG Cnt.up (L.take k) = U at eu ⊢
      generalize sumG Cnt.down (L.take k) = D at ed ⊢
      obtain ⟨key, ru, rd⟩ := r
      simp only at C1H HJ j1 eu ed
      have y0 : IntKind.i64.wrap ((U : Int) + (ru : Int)) = (U1 : Int) := by rw [wrap_id] <;> omega
      have y1 : IntKind.i64.wrap ((D : Int) + (rd : Int)) = (D1 : Int) := by rw [wrap_id] <;> omega
      have q0 : decide ((key : Int) = (key : Int)) = true := by simp
      have HU1 := Go.Lib.hid hU1
      have HD1 := Go.Lib.hid hD1
      have HBX := Go.Lib.hid hbx
      clear eu ed bu bd hU1 hD1 C1 hr hx k1 k2 k3 k4 hbl hb2l hbw hbx
      go_wp2_with (go_at_call 17; refine (C1H.out).mono ?_; rintro e w2 ⟨rfl, hb2⟩; obtain ⟨n1, n2, n3, n4⟩ := HJ.out w2 hb2; have HB2 := Go.Lib.hid hb2; clear hb2)
      go_quiet (fail)
      go_wp2
      go_roundw
      case rel => exact ⟨k + 1, by omega, by go_num, by rw [← HU1.out], by rw [← HD1.out], (HBX.out.trans (HB2.out.mono HBX.out.size)).trans ((Mem.below_drewN _ _).mono (Nat.le_trans HBX.out.size HB2.out.size))⟩
      case measure => simp [intOf]; omega
    · have hkl : k = L.length := by omega
      have e1 : L.take k = L := List.take_of_length_le (by omega)
      rw [e1]
      clear e1
      have C2 := Go.Lib.hid (CS.out wr hbw)
      have C3 := Go.Lib.hid (fun (W : World) (hb : Below wr.heap.size wr W) => CO.out ask W HA.out (hbw.trans (hb.mono hbw.size)))
      have C4 := Go.Lib.hid (fun (W : World) (hb : Below wr.heap.size wr W) => CA.out W (hbw.trans (hb.mono hbw.size)))
      have HBW := Go.Lib.hid hbw
      generalize sumG Cnt.up L = U at C2 ⊢
      generalize sumG Cnt.down L = D at C2 ⊢
      have z1 : decide ((k : Int) < (L.length : Int)) = false := by simp; omega
      clear hkl hbw hbx z1
      cases hi : idx L ask with
      | none =>
        rw [of_none _ hi, of_none _ hi] at C3
        rw [hi] at C4
        simp only [idxV, Int.natCast_zero] at C3 C4
        clear hi
        go_wp2_with (first
          | (go_at_call 18; refine (C2.out).mono ?_; rintro e w2 ⟨rfl, hb2⟩; have HB2 := Go.Lib.hid hb2; clear hb2)
          | (go_at_call 17; refine (C3.out _ HB2.out).mono ?_; rintro e w3 ⟨rfl, hb3⟩; have HB3 := Go.Lib.hid (HB2.out.trans (hb3.mono HB2.out.size)); clear hb3)
          | (go_at_call 9; refine (C4.out _ HB3.out).mono ?_; rintro e w4 ⟨rfl, rfl⟩))
        all_goals exact HK.out _ _ _ _ _ _ _ _ _ _ _ _ _ _ _ _ _ _ _ _ _ _ _ _ _ _ _ _ _ _ _ _ _ _ _ _ _ _ _ _ _ _ _ _ _ _ _ _ _ _ _ _ _ _ _ _ _ _ _ _ _ _ _ _ _ _ _ _ _ _ _ _ _ _ _ _ _ _ _ _ _ _ _ _ _ _ _ _ _ _ _ _ _ _ _ _ _ _ _ _ _ _ (HBW.out.trans (HB3.out.mono HBW.out.size))
      | some j =>
        rw [hi] at C4
        simp only [idxV] at C4
        have z2 : decide ((j : Int) < 0) = false := by simp
        generalize ofG Cnt.up L ask = O1 at C3
        generalize ofG Cnt.down L ask = O2 at C3
        clear hi
        go_wp2_with (first
          | (go_at_call 18; refine (C2.out).mono ?_; rintro e w2 ⟨rfl, hb2⟩; have HB2 := Go.Lib.hid hb2; clear hb2)
          | (go_at_call 17; refine (C3.out _ HB2.out).mono ?_; rintro e w3 ⟨rfl, hb3⟩; have HB3 := Go.Lib.hid (HB2.out.trans (hb3.mono HB2.out.size)); clear hb3)
          | (go_at_call 9; refine (C4.out _ HB3.out).mono ?_; rintro e w4 ⟨rfl, rfl⟩))
        all_goals exact HK.out _ _ _ _ _ _ _ _ _ _ _ _ _ _ _ _ _ _ _ _ _ _ _ _ _ _ _ _ _ _ _ _ _ _ _ _ _ _ _ _ _ _ _ _ _ _ _ _ _ _ _ _ _ _ _ _ _ _ _ _ _ _ _ _ _ _ _ _ _ _ _ _ _ _ _ _ _ _ _ _ _ _ _ _ _ _ _ _ _ _ _ _ _ _ _ _ _ _ _ _ _ _ (HBW.out.trans (HB3.out.mono HBW.out.size))
end Go.Proofs.Ytifaclbafmpiiaa.Tal
