/- TallyPlays: a round that strikes a key that is there. -/
import Derived.Test.YtifaclbafmpiiaaPlayKit
namespace Go.Proofs.Ytifaclbafmpiiaa.Tal
open Go.RowKit Mem Go.Maps

theorem cut_at : ∀ {L : List Cnt} {k key : Nat}, Sorted L → idx L key = some k → cutS L key = L.take k ++ L.drop (k + 1)
  | [], k, key, _, h => by cases h
  | x :: L, k, key, hs, h => by
    obtain ⟨h1, h2⟩ := sorted_cons.1 hs
    rw [idx_cons] at h
    by_cases hx : x.key = key
    · rw [if_pos hx] at h
      obtain rfl : 0 = k := by simpa using h
      have hn : idx L key = none := by
        unfold idx
        rw [List.findIdx?_eq_none_iff]
        intro y hy
        have := h1 y hy
        simp; omega
      have e : cutS (x :: L) key = cutS L key := List.filter_cons_of_neg (by simp [hx])
      rw [e, cut_none hn]; rfl
    · rw [if_neg hx] at h
      obtain ⟨j, hj, rfl⟩ : ∃ j, idx L key = some j ∧ j + 1 = k := by
        cases hq : idx L key with
        | none => rw [hq] at h; cases h
        | some j => rw [hq] at h; exact ⟨j, rfl, by simpa using h⟩
      have e : cutS (x :: L) key = x :: cutS L key := List.filter_cons_of_pos (by simpa using hx)
      rw [e, cut_at h2 hj]; rfl
set_option maxRecDepth 1000000 in
set_option maxHeartbeats 8000000 in
theorem sw_drop1 (u0 u1 u2 u3 u4 u5 u7 u8 u11 u12 u13 u14 u15 u16 u17 u18 u19 u20 u21 u22 u23 u24 u25 u26 u27 u28 u29 u30 u31 u32 u33 u34 u35 u36 u37 u38 u39 u40 u41 u42 u43 u44 u46 u47 u48 u49 u50 u51 u52 u53 u54 u55 u56 u57 u58 u59 u60 u61 u62 u63 u64 u65 u66 u67 u68 u69 u70 u71 u72 u73 u74 u75 u76 u77 u78 u79 u80 u81 u82 u83 u84 u85 u86 u87 u88 u89 u90 u91 u92 u93 u94 u95 u96 u97 u98 u99 u100 u101 u102 u103 u104 u105 u106 u107 u108 u109 u110 u111 u112 u113 u114 u115 u116 u117 u118 u119 u120 u121 u122 u123 u124 u125 u126 u127 u128 u129 u130 u131 u132 u133 u134 u135 u136 u137 u138 u139 u140 u141 u142 u143 u144 u145 u146 u147 u148 u149 u150 u151 u152 u153 u154 u155 u156 u157 u158 u159 u160 u161 u162 u163 u164 u165 u166 u167 u168 u169 u170 u171 u172 u173 u174 u175 u176 u177 u178 u179 u180 u181 u182 u183 u184 u185 u186 u187 u188 u189 u190 u191 u192 u193 u194 u195 u196 u197 u198 u199 u200 u201 u202 u203 u204 u205 u206 u207 u208 u209 u210 u211 u212 u213 u214 u215 u216 u217 u218 u219 u220 u221 u222 u223 u224 : Value) (A : Option Addr) (c i p key : Nat) (L : List Cnt) (F : Nat → Prop) (w wr : World) (K : Go.Act → World → Prop) (Q : Exit → Go.Act → World → Prop)
    (hS : St w u5 i (.slice A L.length c) L F wr) (hi : i ≤ 59) (hkey : key < 4294967296) (c1 : wr.cell? ⟨p, 1, none⟩ = some (.int .u32 key)) (k : Nat) (r : Cnt) (hn : idx L key = some k) (hr : L[k]? = some r)
    (hK : ∀ (x7 x11 x12 x13 x46 x47 x48 x49 x50 x51 x52 x53 x54 x55 x56 x57 x58 x59 x60 x61 x62 x63 x64 x65 x66 x67 x68 x69 x70 x71 x72 x73 x74 x75 x76 x77 x78 x79 x80 x81 x82 x83 x84 x85 x86 x87 x88 x89 x90 x91 x92 x93 x94 x95 x96 x97 x98 x99 x100 x101 x102 x103 x104 x105 x106 x107 x108 x109 x110 x111 x112 x113 x114 x115 x116 x117 x118 x119 x120 x121 x122 x123 x124 x125 x126 x127 x128 x129 x130 x131 x132 x133 : Value) (A' : Option Addr) (n' c' : Nat) (L' : List Cnt) (F' : Nat → Prop) (W : World), n' = L'.length → St w u5 (i + 1) (.slice A' n' c') L' F' W → K ⟨#[u0, u1, u2, u3, u4, u5, .slice A' n' c', x7, u8, .pointer (some ⟨p, 0, none⟩), .int .i64 (k : Nat), x11, x12, x13, u14, u15, u16, u17, u18, u19, u20, u21, u22, u23, u24, u25, u26, u27, u28, u29, u30, u31, u32, u33, u34, u35, u36, u37, u38, u39, u40, u41, u42, u43, u44, .int .i64 2, x46, x47, x48, x49, x50, x51, x52, x53, x54, x55, x56, x57, x58, x59, x60, x61, x62, x63, x64, x65, x66, x67, x68, x69, x70, x71, x72, x73, x74, x75, x76, x77, x78, x79, x80, x81, x82, x83, x84, x85, x86, x87, x88, x89, x90, x91, x92, x93, x94, x95, x96, x97, x98, x99, x100, x101, x102, x103, x104, x105, x106, x107, x108, x109, x110, x111, x112, x113, x114, x115, x116, x117, x118, x119, x120, x121, x122, x123, x124, x125, x126, x127, x128, x129, x130, x131, x132, x133, u134, u135, u136, u137, u138, u139, u140, u141, u142, u143, u144, u145, u146, u147, u148, u149, u150, u151, u152, u153, u154, u155, u156, u157, u158, u159, u160, u161, u162, u163, u164, u165, u166, u167, u168, u169, u170, u171, u172, u173, u174, u175, u176, u177, u178, u179, u180, u181, u182, u183, u184, u185, u186, u187, u188, u189, u190, u191, u192, u193, u194, u195, u196, u197, u198, u199, u200, u201, u202, u203, u204, u205, u206, u207, u208, u209, u210, u211, u212, u213, u214, u215, u216, u217, u218, u219, u220, u221, u222, u223, u224], []⟩ W) :
    Code.wp Try.prog swC (Exit.then K Q) ⟨#[u0, u1, u2, u3, u4, u5, .slice A L.length c, u7, u8, .pointer (some ⟨p, 0, none⟩), .int .i64 (k : Nat), u11, u12, u13, u14, u15, u16, u17, u18, u19, u20, u21, u22, u23, u24, u25, u26, u27, u28, u29, u30, u31, u32, u33, u34, u35, u36, u37, u38, u39, u40, u41, u42, u43, u44, .int .i64 2, u46, u47, u48, u49, u50, u51, u52, u53, u54, u55, u56, u57, u58, u59, u60, u61, u62, u63, u64, u65, u66, u67, u68, u69, u70, u71, u72, u73, u74, u75, u76, u77, u78, u79, u80, u81, u82, u83, u84, u85, u86, u87, u88, u89, u90, u91, u92, u93, u94, u95, u96, u97, u98, u99, u100, u101, u102, u103, u104, u105, u106, u107, u108, u109, u110, u111, u112, u113, u114, u115, u116, u117, u118, u119, u120, u121, u122, u123, u124, u125, u126, u127, u128, u129, u130, u131, u132, u133, u134, u135, u136, u137, u138, u139, u140, u141, u142, u143, u144, u145, u146, u147, u148, u149, u150, u151, u152, u153, u154, u155, u156, u157, u158, u159, u160, u161, u162, u163, u164, u165, u166, u167, u168, u169, u170, u171, u172, u173, u174, u175, u176, u177, u178, u179, u180, u181, u182, u183, u184, u185, u186, u187, u188, u189, u190, u191, u192, u193, u194, u195, u196, u197, u198, u199, u200, u201, u202, u203, u204, u205, u206, u207, u208, u209, u210, u211, u212, u213, u214, u215, u216, u217, u218, u219, u220, u221, u222, u223, u224], []⟩ wr := by
  have HK := Go.Lib.hid hK
  have HS := Go.Lib.hid hS
  have CT0 := drop_any u5 L F key wr hkey hS.tally
  rw [hn] at CT0
  have hE := cut_at hS.tally.1.1 hn
  have CT := Go.Lib.hid CT0
  obtain ⟨i0, E⟩ := elemCnt
  have hkl := (List.getElem?_eq_some_iff.1 hr).1
  have hlen := hS.len
  obtain ⟨b, off, hA, hbl, _, _, _⟩ := hS.cnts.at_ hr
  subst hA
  obtain ⟨_, c2, e2, hlc, hc⟩ := hS.cnts.form
  obtain rfl : c = c2 := by injection e2
  have HUn := Go.Lib.hid (show Under ((i + 1) * 1073741824) (cutS L key) from fun z hz => (hS.later (Nat.le_succ i)).under z (List.mem_filter.1 hz).1)
  have HLn := Go.Lib.hid (show (cutS L key).length ≤ i + 1 from Nat.le_trans (List.length_filter_le _ _) (by omega))
  have hcl : (cutS L key).length = L.length - 1 := by rw [hE, List.length_append, List.length_take, List.length_drop]; omega
  obtain ⟨kk, hkk⟩ : ∃ kk, kk = k + 1 := ⟨_, rfl⟩
  have x0 : IntKind.i64.wrap ((k : Int) + 1) = (kk : Int) := by rw [wrap_id] <;> omega
  have z0 : (0 : Int) ≤ (k : Int) := by omega
  have y1 : (k : Int) ≤ (c : Int) := by omega
  have y2 : (kk : Int) ≤ (L.length : Int) := by omega
  have y3 : (0 : Int) ≤ (kk : Int) := by omega
  have y4 : (kk : Int) ≤ (c : Int) := by omega
  have HE := Go.Lib.hid (show cntCells (cutS L key) = cntCells (L.take k) ++ cntCells (L.drop kk) by rw [hE, cntCells_append, hkk])
  have HCL := Go.Lib.hid hcl
  have hk60 : k ≤ L.length ∧ kk ≤ L.length ∧ L.length ≤ 60 := by omega
  have HKK := Go.Lib.hid hk60
  have HK2 := Go.Lib.hid hkk
  clear hK hS hn CT0 hE hr hcl hkk hk60 e2
  conv => arg 2; whnf
  go_wp2_with (go_at_call 11; refine (CT.out).mono ?_; rintro e w1 ⟨rfl, hT1, hm1⟩; have HT1 := Go.Lib.hid hT1; have HM1 := Go.Lib.hid hm1; have HV := Go.Lib.hid (show Cnts w1 (.slice (some ⟨b, off, none⟩) L.length c) L from Row.of_own (own_moved HS.out.rows hm1 HS.out.apart)); clear hT1 hm1)
  have hR1 := Row.prefix_ (HV.out) (k := k) HKK.out.1
  rw [cntCells_take] at hR1
  have hR2 := cut3_at (HV.out) (k := kk) HKK.out.2.1
  rw [cntCells_drop] at hR2
  obtain ⟨g1, g2, g3⟩ := HKK.out
  go_region_held3 (fun w' => Below w1.heap.size w1 w') (first | assumption | exact (Below.refl _ _).drew | exact Below.alloc (by assumption) (Below.size (by assumption)) _ | exact Below.drew (by assumption) | exact Below.refl _ _ | (trace_state; fail))
    (first
      | (refine step_append_row (by rfl) (.tmp 95) (.tmp 98) (by rfl) E w1.heap.size _ 0 [] (by rfl) ?_ _ k (cntCells (L.take k)) (by rfl) ?_ (ones_cnt (L.take k)) ?_ ?_ ?_ k (Nat.zero_add k) ?_
         · exact own_blk3 (by simp) (by simp only [heap_dr, heap_al, Array.getElem?_push]; simp)
         · exact hR1.keep (by assumption)
         · unfold maxLen; omega
         · omega
         · simp; try omega
         intro A1 c1' w2 hown1 hg1 hat1 hb0
         have hb1 : Below w1.heap.size w1 w2 := Below.trans (by assumption) hb0
         clear hb0)
      | (refine step_append_row (by rfl) (.tmp 99) (.tmp 103) (by rfl) E w1.heap.size (.slice A1 k c1') k _ (by rfl) hown1 _ (L.length - kk) (cntCells (L.drop kk)) (by rfl) ?_ (ones_cnt (L.drop kk)) ?_ ?_ hb1.size (L.length - 1) (by have := HK2.out; omega) ?_
         · exact hR2.keep hb1
         · unfold maxLen; omega
         · omega
         intro A3 c3 w3 hown3 hg3 hat3 hb0
         have hb3 : Below w1.heap.size w1 w3 := Below.trans hb1 hb0
         clear hb0))
  all_goals go_wp2
  all_goals refine HK.out _ _ _ _ _ _ _ _ _ _ _ _ _ _ _ _ _ _ _ _ _ _ _ _ _ _ _ _ _ _ _ _ _ _ _ _ _ _ _ _ _ _ _ _ _ _ _ _ _ _ _ _ _ _ _ _ _ _ _ _ _ _ _ _ _ _ _ _ _ _ _ _ _ _ _ _ _ _ _ _ _ _ _ _ _ _ _ _ _ _ _ _ _ (L.length - 1) _ (cutS L key) _ _ HCL.out.symm (HS.out.anew HT1.out HM1.out hb3 (Nat.le_refl _) ?_ HUn.out HLn.out)
  all_goals rw [HE.out, HCL.out]
  all_goals simpa using hown3
end Go.Proofs.Ytifaclbafmpiiaa.Tal
