/- TallyPlays: a round that exchanges the counts of a key that is there. -/
import Derived.Test.YtifaclbafmpiiaaPlayKit
namespace Go.Proofs.Ytifaclbafmpiiaa.Tal
open Go.RowKit Mem Go.Maps

theorem turn_under {m : Nat} {L : List Cnt} {k : Nat} {r : Cnt} (h : Under m L) (hr : L[k]? = some r) : Under m (L.set k ⟨r.key, r.down, r.up⟩) := by
  have h1 := h r (List.mem_of_getElem? hr)
  intro z hz
  rcases List.mem_or_eq_of_mem_set hz with hz | rfl
  · exact h z hz
  · exact ⟨h1.2, h1.1⟩
/-- A round that does not die. -/
def deadQ (Q : Exit → Go.Act → World → Prop) : Exit → Go.Act → World → Prop
  | .panic _, _, _ => False
  | e, a, w => Q e a w
theorem deadQ_imp {Q : Exit → Go.Act → World → Prop} {e : Exit} {a : Go.Act} {w : World} (h : deadQ Q e a w) : Q e a w := by
  cases e with
  | panic c => exact h.elim
  | _ => exact h
theorem wp_dead {C : Code} {K : Go.Act → World → Prop} {Q : Exit → Go.Act → World → Prop} {a : Go.Act} {w : World} (h : Code.wp Try.prog C (Exit.then K (deadQ Q)) a w) : Code.wp Try.prog C (Exit.then K Q) a w := by
  refine wp_mono h ?_
  intro e a' w' hq
  cases e with
  | normal => exact hq
  | exit id => exact deadQ_imp hq
  | goto l => exact deadQ_imp hq
  | ret => exact deadQ_imp hq
  | panic ch => exact deadQ_imp hq
  | outgrown => exact deadQ_imp hq
set_option maxRecDepth 1000000 in
set_option maxHeartbeats 8000000 in
theorem sw_turn1 (u0 u1 u2 u3 u4 u5 u7 u8 u11 u12 u13 u14 u15 u16 u17 u18 u19 u20 u21 u22 u23 u24 u25 u26 u27 u28 u29 u30 u31 u32 u33 u34 u35 u36 u37 u38 u39 u40 u41 u42 u43 u44 u46 u47 u48 u49 u50 u51 u52 u53 u54 u55 u56 u57 u58 u59 u60 u61 u62 u63 u64 u65 u66 u67 u68 u69 u70 u71 u72 u73 u74 u75 u76 u77 u78 u79 u80 u81 u82 u83 u84 u85 u86 u87 u88 u89 u90 u91 u92 u93 u94 u95 u96 u97 u98 u99 u100 u101 u102 u103 u104 u105 u106 u107 u108 u109 u110 u111 u112 u113 u114 u115 u116 u117 u118 u119 u120 u121 u122 u123 u124 u125 u126 u127 u128 u129 u130 u131 u132 u133 u134 u135 u136 u137 u138 u139 u140 u141 u142 u143 u144 u145 u146 u147 u148 u149 u150 u151 u152 u153 u154 u155 u156 u157 u158 u159 u160 u161 u162 u163 u164 u165 u166 u167 u168 u169 u170 u171 u172 u173 u174 u175 u176 u177 u178 u179 u180 u181 u182 u183 u184 u185 u186 u187 u188 u189 u190 u191 u192 u193 u194 u195 u196 u197 u198 u199 u200 u201 u202 u203 u204 u205 u206 u207 u208 u209 u210 u211 u212 u213 u214 u215 u216 u217 u218 u219 u220 u221 u222 u223 u224 : Value) (A : Option Addr) (c i p key : Nat) (L : List Cnt) (F : Nat → Prop) (w wr : World) (K : Go.Act → World → Prop) (Q : Exit → Go.Act → World → Prop)
    (hS : St w u5 i (.slice A L.length c) L F wr) (hi : i ≤ 59) (hkey : key < 4294967296) (c1 : wr.cell? ⟨p, 1, none⟩ = some (.int .u32 key)) (k : Nat) (r : Cnt) (hn : idx L key = some k) (hr : L[k]? = some r) (hrk : r.key = key)
    (hK : ∀ (x7 x11 x12 x13 x46 x47 x48 x49 x50 x51 x52 x53 x54 x55 x56 x57 x58 x59 x60 x61 x62 x63 x64 x65 x66 x67 x68 x69 x70 x71 x72 x73 x74 x75 x76 x77 x78 x79 x80 x81 x82 x83 x84 x85 x86 x87 x88 x89 x90 x91 x92 x93 x94 x95 x96 x97 x98 x99 x100 x101 x102 x103 x104 x105 x106 x107 x108 x109 x110 x111 x112 x113 x114 x115 x116 x117 x118 x119 x120 x121 x122 x123 x124 x125 x126 x127 x128 x129 x130 x131 x132 x133 : Value) (A' : Option Addr) (n' c' : Nat) (L' : List Cnt) (F' : Nat → Prop) (W : World), n' = L'.length → St w u5 (i + 1) (.slice A' n' c') L' F' W → K ⟨#[u0, u1, u2, u3, u4, u5, .slice A' n' c', x7, u8, .pointer (some ⟨p, 0, none⟩), .int .i64 (k : Nat), x11, x12, x13, u14, u15, u16, u17, u18, u19, u20, u21, u22, u23, u24, u25, u26, u27, u28, u29, u30, u31, u32, u33, u34, u35, u36, u37, u38, u39, u40, u41, u42, u43, u44, .int .i64 1, x46, x47, x48, x49, x50, x51, x52, x53, x54, x55, x56, x57, x58, x59, x60, x61, x62, x63, x64, x65, x66, x67, x68, x69, x70, x71, x72, x73, x74, x75, x76, x77, x78, x79, x80, x81, x82, x83, x84, x85, x86, x87, x88, x89, x90, x91, x92, x93, x94, x95, x96, x97, x98, x99, x100, x101, x102, x103, x104, x105, x106, x107, x108, x109, x110, x111, x112, x113, x114, x115, x116, x117, x118, x119, x120, x121, x122, x123, x124, x125, x126, x127, x128, x129, x130, x131, x132, x133, u134, u135, u136, u137, u138, u139, u140, u141, u142, u143, u144, u145, u146, u147, u148, u149, u150, u151, u152, u153, u154, u155, u156, u157, u158, u159, u160, u161, u162, u163, u164, u165, u166, u167, u168, u169, u170, u171, u172, u173, u174, u175, u176, u177, u178, u179, u180, u181, u182, u183, u184, u185, u186, u187, u188, u189, u190, u191, u192, u193, u194, u195, u196, u197, u198, u199, u200, u201, u202, u203, u204, u205, u206, u207, u208, u209, u210, u211, u212, u213, u214, u215, u216, u217, u218, u219, u220, u221, u222, u223, u224], []⟩ W) :
    Code.wp Try.prog swC (Exit.then K Q) ⟨#[u0, u1, u2, u3, u4, u5, .slice A L.length c, u7, u8, .pointer (some ⟨p, 0, none⟩), .int .i64 (k : Nat), u11, u12, u13, u14, u15, u16, u17, u18, u19, u20, u21, u22, u23, u24, u25, u26, u27, u28, u29, u30, u31, u32, u33, u34, u35, u36, u37, u38, u39, u40, u41, u42, u43, u44, .int .i64 1, u46, u47, u48, u49, u50, u51, u52, u53, u54, u55, u56, u57, u58, u59, u60, u61, u62, u63, u64, u65, u66, u67, u68, u69, u70, u71, u72, u73, u74, u75, u76, u77, u78, u79, u80, u81, u82, u83, u84, u85, u86, u87, u88, u89, u90, u91, u92, u93, u94, u95, u96, u97, u98, u99, u100, u101, u102, u103, u104, u105, u106, u107, u108, u109, u110, u111, u112, u113, u114, u115, u116, u117, u118, u119, u120, u121, u122, u123, u124, u125, u126, u127, u128, u129, u130, u131, u132, u133, u134, u135, u136, u137, u138, u139, u140, u141, u142, u143, u144, u145, u146, u147, u148, u149, u150, u151, u152, u153, u154, u155, u156, u157, u158, u159, u160, u161, u162, u163, u164, u165, u166, u167, u168, u169, u170, u171, u172, u173, u174, u175, u176, u177, u178, u179, u180, u181, u182, u183, u184, u185, u186, u187, u188, u189, u190, u191, u192, u193, u194, u195, u196, u197, u198, u199, u200, u201, u202, u203, u204, u205, u206, u207, u208, u209, u210, u211, u212, u213, u214, u215, u216, u217, u218, u219, u220, u221, u222, u223, u224], []⟩ wr := by
  have HK := Go.Lib.hid hK
  have HS := Go.Lib.hid hS
  have CT0 := turn_any u5 L F key wr hkey hS.tally
  have hE : turnS L key = L.set k ⟨r.key, r.down, r.up⟩ := by unfold turnS; rw [hn]; simp only [hr]; rw [hrk]
  rw [hE] at CT0
  have CT := Go.Lib.hid CT0
  obtain ⟨i0, E⟩ := elemCnt
  have hkl := (List.getElem?_eq_some_iff.1 hr).1
  have hlen := hS.len
  have HSet := Go.Lib.hid (cnt_set L k r r.down r.up hr)
  have HCU := Go.Lib.hid (show (cntCells L)[k * 3 + 1]? = some (.int .i64 r.up) from cntCells_at k L r hr 1 _ rfl)
  have HCD := Go.Lib.hid (show (cntCells L)[k * 3 + 2]? = some (.int .i64 r.down) from cntCells_at k L r hr 2 _ rfl)
  have HUn := Go.Lib.hid (turn_under (hS.later (Nat.le_succ i)).under hr)
  have HLn := Go.Lib.hid (show (L.set k ⟨r.key, r.down, r.up⟩).length ≤ i + 1 by rw [List.length_set]; omega)
  have z0 : (0 : Int) ≤ (k : Int) := by omega
  have z1 : (k : Int) < (L.length : Int) := by omega
  have HCL := Go.Lib.hid (cntCells_len L)
  clear hK hS hn CT0 hE hr hrk
  obtain ⟨rkey, ru, rd⟩ := r
  simp only at CT HSet HCU HCD HUn HLn
  refine wp_dead ?_
  conv => arg 2; whnf
  go_wp2_with (first
    | (go_at_call 10; refine (CT.out).mono ?_; rintro e w1 ⟨rfl, hT1, hm1⟩; have HT1 := Go.Lib.hid hT1; have HM1 := Go.Lib.hid hm1; have HO0 := Go.Lib.hid (World.ownsRow_lit (base := w1.heap.size) (e := 32) (size := 3) w1 #[] 0 (Nat.le_refl _) (Nat.zero_le _) rfl); have HR0 := Go.Lib.hid (Row.keep (Row.of_own (own_moved HS.out.rows hm1 HS.out.apart)) ((Below.refl _ w1).alloc (Nat.le_refl _) (.cells #[] 32))); clear hT1 hm1)
    | (at_builtin; refine wpList_append_row rfl (.tmp 63) (.tmp 64) rfl E w1.heap.size _ 0 [] rfl HO0.out _ L.length (cntCells L) rfl HR0.out (ones_cnt L) ?_ ?_ ?_ L.length (Nat.zero_add _) ?_; (· unfold maxLen; omega); (· omega); (· simp); intro A1 c1' w2 hown1 hg1 hat1 hb1; rw [List.nil_append] at hown1; obtain ⟨g, cap, e1, hgb, hgs⟩ := hown1.form (by omega); injection e1 with e1 _ e3; subst e1 e3; have HO1 := Go.Lib.hid hown1; have q1 : w2.cell? ⟨g, k * 3 + 1, none⟩ = some (.int .i64 ru) := (hown1.cellAt _ (by have := HCL.out; omega)).trans HCU.out; have q2 : w2.cell? ⟨g, k * 3 + 2, none⟩ = some (.int .i64 rd) := (hown1.cellAt _ (by have := HCL.out; omega)).trans HCD.out; have f1 := hown1.frozenAt (k * 3 + 1); have f2 := hown1.frozenAt (k * 3 + 2); have HB1 := Go.Lib.hid (((Below.refl _ w1).alloc (Nat.le_refl _) (.cells #[] 32)).trans hb1); have HGB := Go.Lib.hid hgb; clear hown1 hg1 hat1 hb1 hgb hgs))
  go_region
  go_wp2
  have hs1 := (HO1.out.stored (k * 3 + 1) (.int .i64 (rd : Int))).1
  have hs2 := (hs1.stored (k * 3 + 2) (.int .i64 (ru : Int))).1
  have hb2 := ((HB1.out.setCell (p := ⟨g, k * 3 + 1, none⟩) HGB.out (.int .i64 (rd : Int))).setCell (p := ⟨g, k * 3 + 2, none⟩) HGB.out (.int .i64 (ru : Int))).drew
  refine HK.out _ _ _ _ _ _ _ _ _ _ _ _ _ _ _ _ _ _ _ _ _ _ _ _ _ _ _ _ _ _ _ _ _ _ _ _ _ _ _ _ _ _ _ _ _ _ _ _ _ _ _ _ _ _ _ _ _ _ _ _ _ _ _ _ _ _ _ _ _ _ _ _ _ _ _ _ _ _ _ _ _ _ _ _ _ _ _ _ _ _ _ _ _ L.length _ (L.set k ⟨rkey, rd, ru⟩) _ _ (by rw [List.length_set]) (HS.out.anew HT1.out HM1.out hb2 (Nat.le_refl _) ?_ HUn.out HLn.out)
  rw [HSet.out, List.length_set]
  exact own_keep hs2 ((Below.refl _ _).drew)
end Go.Proofs.Ytifaclbafmpiiaa.Tal
