/- TriePlays: a region of its code, by its number. TriePlays: the great test behind each act, NN. TriePlays: the great test behind each act, NS. TriePlays: the great test behind each act, SN. TriePlays: the great test behind each act, SS. -/
import Derived.Test.YtpcahgnibdampaaP15
import Derived.Test.YtpcahgnibdampaaP05
import Derived.Test.YtpcahgnibdampaaP09
import Derived.Deep.DrawnRows
import Derived.Deep.RegionHeld3
namespace Go.Proofs.Ytpcahgnibdampaa.Tri
open Go.RowKit Mem PR Pfx Oct
def regOf (n : Nat) : Code → Option Code
  | .region m o b => if m = n then some (.region m o b) else none
  | .block _ c => regOf n c
  | .loop c => regOf n c
  | .scope c => regOf n c
  | .seq a b => match regOf n a with
    | some c => some c
    | none => regOf n b
  | .cond _ a b => match regOf n a with
    | some c => some c
    | none => regOf n b
  | _ => none
noncomputable def r11C : Code := (Try.f3.body.bind (regOf 11)).getD .skip
theorem wp_code {C D : Code} {Q : Exit → Go.Act → World → Prop} {a : Go.Act} {w : World} (h : C = D) (H : Code.wp Try.prog C Q a w) : Code.wp Try.prog D Q a w := h ▸ H
end Go.Proofs.Ytpcahgnibdampaa.Tri
namespace Go.Proofs.Ytpcahgnibdampaa.Tri
open Go.RowKit Mem PR Pfx Oct
set_option maxRecDepth 1000000 in
set_option maxHeartbeats 16000000 in
theorem r11_NN (u0 u1 u2 u3 u4 u5 u6 u7 u9 u10 u18 u19 u20 u21 u22 u23 u24 u25 u26 u27 u28 u29 u30 u31 u32 u33 u34 u35 u36 u37 u38 u39 u40 u41 u42 u43 u44 u45 u46 u47 u48 u49 u50 u51 u52 u53 u54 u55 u56 u57 u58 u59 u60 u61 u62 u63 u64 u65 u66 u67 u68 u69 u70 u71 u72 u73 u74 u75 u76 u77 u78 u79 u80 u81 u82 u83 u84 u85 u86 u87 u88 u89 u90 u91 u92 u93 u94 u95 u96 u97 u98 u99 u100 u101 u102 u103 u104 u105 u106 u107 u108 u109 u110 u111 u112 u113 u114 u115 u116 u117 u118 u119 u120 u121 u122 u123 u124 u125 u126 u127 u128 u129 u130 u131 u132 u133 u134 u135 u136 u137 u138 u139 u140 u141 u142 u143 u144 u145 u146 u147 u148 u149 u150 u151 u152 u153 u154 u155 u156 u157 u158 u159 u160 u161 u162 u163 u164 u165 u166 u167 u168 u169 u170 u171 u172 u173 u174 u175 u176 u177 u178 u179 u180 u181 u182 u183 u184 u185 u186 u187 u188 u189 u190 u191 : Value) (A : Option Addr) (m2 : Nat) (c2 : Nat) (qb : Nat) (Q : Exit → Go.Act → World → Prop) (W : World) (f0 : W.cell? ⟨qb, 0, none⟩ = some (.int .u32 0)) (f1 : W.cell? ⟨qb, 1, none⟩ = some (.int .i64 0))
    (hK : ∀ (x65 x66 x67 x68 x69 x70 x71 x72 x73 x74 x75 x76 x77 x78 x79 x80 x81 x82 x83 x84 x85 x86 x87 x88 x89 x90 x91 x92 x93 x94 x95 x96 x97 x98 x99 x100 x101 x102 x103 x104 x105 x106 x107 x108 x109 x110 x111 x112 x113 x114 x115 x116 x117 x118 x119 x120 x121 x122 x123 x124 x125 x126 x127 : Value), Q .normal ⟨#[u0, u1, u2, u3, u4, u5, u6, u7, .slice A m2 c2, u9, u10, .int .i64 (-1), .int .i64 (-1), .int .i64 0, .bool false, .pointer (some ⟨qb, 0, none⟩), .int .i64 0, .bool false, u18, u19, u20, u21, u22, u23, u24, u25, u26, u27, u28, u29, u30, u31, u32, u33, u34, u35, u36, u37, u38, u39, u40, u41, u42, u43, u44, u45, u46, u47, u48, u49, u50, u51, u52, u53, u54, u55, u56, u57, u58, u59, u60, u61, u62, u63, u64, x65, x66, x67, x68, x69, x70, x71, x72, x73, x74, x75, x76, x77, x78, x79, x80, x81, x82, x83, x84, x85, x86, x87, x88, x89, x90, x91, x92, x93, x94, x95, x96, x97, x98, x99, x100, x101, x102, x103, x104, x105, x106, x107, x108, x109, x110, x111, x112, x113, x114, x115, x116, x117, x118, x119, x120, x121, x122, x123, x124, x125, x126, x127, .bool false, u129, u130, u131, u132, u133, u134, u135, u136, u137, u138, u139, u140, u141, u142, u143, u144, u145, u146, u147, u148, u149, u150, u151, u152, u153, u154, u155, u156, u157, u158, u159, u160, u161, u162, u163, u164, u165, u166, u167, u168, u169, u170, u171, u172, u173, u174, u175, u176, u177, u178, u179, u180, u181, u182, u183, u184, u185, u186, u187, u188, u189, u190, u191], []⟩ W.drew) :
    Code.wp Try.prog r11C Q ⟨#[u0, u1, u2, u3, u4, u5, u6, u7, .slice A m2 c2, u9, u10, .int .i64 (-1), .int .i64 (-1), .int .i64 0, .bool false, .pointer (some ⟨qb, 0, none⟩), .int .i64 0, .bool false, u18, u19, u20, u21, u22, u23, u24, u25, u26, u27, u28, u29, u30, u31, u32, u33, u34, u35, u36, u37, u38, u39, u40, u41, u42, u43, u44, u45, u46, u47, u48, u49, u50, u51, u52, u53, u54, u55, u56, u57, u58, u59, u60, u61, u62, u63, u64, u65, u66, u67, u68, u69, u70, u71, u72, u73, u74, u75, u76, u77, u78, u79, u80, u81, u82, u83, u84, u85, u86, u87, u88, u89, u90, u91, u92, u93, u94, u95, u96, u97, u98, u99, u100, u101, u102, u103, u104, u105, u106, u107, u108, u109, u110, u111, u112, u113, u114, u115, u116, u117, u118, u119, u120, u121, u122, u123, u124, u125, u126, u127, u128, u129, u130, u131, u132, u133, u134, u135, u136, u137, u138, u139, u140, u141, u142, u143, u144, u145, u146, u147, u148, u149, u150, u151, u152, u153, u154, u155, u156, u157, u158, u159, u160, u161, u162, u163, u164, u165, u166, u167, u168, u169, u170, u171, u172, u173, u174, u175, u176, u177, u178, u179, u180, u181, u182, u183, u184, u185, u186, u187, u188, u189, u190, u191], []⟩ W := by
  conv => arg 2; whnf
  replace f0 := ((Below.refl W.heap.size W).drew.cell (block_lt_of_cell f0)).trans f0
  replace f1 := ((Below.refl W.heap.size W).drew.cell (block_lt_of_cell f1)).trans f1
  refine wp_region_noPanic ?_
  refine wp_region_held_drew (S := fun w' => w'.cell? ⟨qb, 0, none⟩ = some (.int .u32 0) ∧ w'.cell? ⟨qb, 1, none⟩ = some (.int .i64 0)) (by kernel_rfl) ⟨f0, f1⟩ (fun hHeld => ?_)
  refine Take.tk 0 65 hHeld ?_
  refine Take.tk 1 66 hHeld ?_
  try simp only [Act.put, Take.nm]
  refine Take.tk 2 67 hHeld ?_
  refine Take.tk 3 68 hHeld ?_
  try simp only [Act.put, Take.nm]
  refine Take.tk 4 69 hHeld ?_
  refine Take.tk 5 70 hHeld ?_
  try simp only [Act.put, Take.nm]
  refine Take.tk 6 71 hHeld ?_
  refine Take.sk [(7, 72), (8, 73), (9, 74), (10, 75), (11, 76), (12, 77), (13, 78)] hHeld ?_
  try simp only [Take.fl, Act.put, Take.nm]
  refine Take.tk 14 79 hHeld ?_
  try simp only [Act.put, Take.nm]
  refine Take.tk 15 80 hHeld ?_
  refine Take.tk 16 81 hHeld ?_
  try simp only [Act.put, Take.nm]
  refine Take.tk 17 82 hHeld ?_
  refine Take.tk 18 83 hHeld ?_
  try simp only [Act.put, Take.nm]
  refine Take.tk 19 84 hHeld ?_
  refine Take.tk 20 85 hHeld ?_
  try simp only [Act.put, Take.nm]
  refine Take.tk 21 86 hHeld ?_
  refine Take.tk 22 87 hHeld ?_
  try simp only [Act.put, Take.nm]
  refine Take.tk 23 88 hHeld ?_
  refine Take.tk 24 89 hHeld ?_
  try simp only [Act.put, Take.nm]
  refine Take.tk 25 90 hHeld ?_
  refine Take.tk 26 91 hHeld ?_
  try simp only [Act.put, Take.nm]
  refine Take.tk 27 92 hHeld ?_
  refine Take.tk 28 93 hHeld ?_
  try simp only [Act.put, Take.nm]
  refine Take.tk 29 94 hHeld ?_
  refine Take.tk 30 95 hHeld ?_
  try simp only [Act.put, Take.nm]
  refine Take.tk 31 96 hHeld ?_
  refine Take.tk 32 97 hHeld ?_
  try simp only [Act.put, Take.nm]
  refine Take.sk [(33, 98), (34, 99), (35, 100), (36, 101), (37, 102), (38, 103), (39, 104), (40, 105), (41, 106), (42, 107), (43, 108), (44, 109), (45, 110), (46, 111), (47, 112), (48, 113)] hHeld ?_
  try simp only [Take.fl, Act.put, Take.nm]
  refine Take.tk 49 114 hHeld ?_
  refine Take.tk 50 115 hHeld ?_
  try simp only [Act.put, Take.nm]
  refine Take.tk 51 116 hHeld ?_
  refine Take.tk 52 117 hHeld ?_
  try simp only [Act.put, Take.nm]
  refine Take.tk 53 118 hHeld ?_
  refine Take.tk 54 119 hHeld ?_
  try simp only [Act.put, Take.nm]
  refine Take.tk 55 120 hHeld ?_
  refine Take.tk 56 121 hHeld ?_
  try simp only [Act.put, Take.nm]
  refine Take.tk 57 122 hHeld ?_
  refine Take.tk 58 123 hHeld ?_
  try simp only [Act.put, Take.nm]
  refine Take.tk 59 124 hHeld ?_
  refine Take.tk 60 125 hHeld ?_
  try simp only [Act.put, Take.nm]
  refine Take.tk 61 126 hHeld ?_
  refine Take.tk 62 127 hHeld ?_
  try simp only [Act.put, Take.nm]
  refine Take.tk 63 128 hHeld ?_
  try simp only [Act.put, Take.nm]
  clear hHeld
  refine wpAnyH_done (by kernel_rfl) ?_ _
  refine NoPanic.normal ?_
  exact hK _ _ _ _ _ _ _ _ _ _ _ _ _ _ _ _ _ _ _ _ _ _ _ _ _ _ _ _ _ _ _ _ _ _ _ _ _ _ _ _ _ _ _ _ _ _ _ _ _ _ _ _ _ _ _ _ _ _ _ _ _ _ _
end Go.Proofs.Ytpcahgnibdampaa.Tri
namespace Go.Proofs.Ytpcahgnibdampaa.Tri
open Go.RowKit Mem PR Pfx Oct
set_option maxRecDepth 1000000 in
set_option maxHeartbeats 16000000 in
theorem r11_NS (u0 u1 u2 u3 u4 u5 u6 u7 u9 u10 u18 u19 u20 u21 u22 u23 u24 u25 u26 u27 u28 u29 u30 u31 u32 u33 u34 u35 u36 u37 u38 u39 u40 u41 u42 u43 u44 u45 u46 u47 u48 u49 u50 u51 u52 u53 u54 u55 u56 u57 u58 u59 u60 u61 u62 u63 u64 u65 u66 u67 u68 u69 u70 u71 u72 u73 u74 u75 u76 u77 u78 u79 u80 u81 u82 u83 u84 u85 u86 u87 u88 u89 u90 u91 u92 u93 u94 u95 u96 u97 u98 u99 u100 u101 u102 u103 u104 u105 u106 u107 u108 u109 u110 u111 u112 u113 u114 u115 u116 u117 u118 u119 u120 u121 u122 u123 u124 u125 u126 u127 u128 u129 u130 u131 u132 u133 u134 u135 u136 u137 u138 u139 u140 u141 u142 u143 u144 u145 u146 u147 u148 u149 u150 u151 u152 u153 u154 u155 u156 u157 u158 u159 u160 u161 u162 u163 u164 u165 u166 u167 u168 u169 u170 u171 u172 u173 u174 u175 u176 u177 u178 u179 u180 u181 u182 u183 u184 u185 u186 u187 u188 u189 u190 u191 : Value) (m2 : Nat) (c2 : Nat) (qb : Nat) (br : Nat) (or_ : Nat) (ky : Nat) (ya : Nat) (yn : Int) (yv : Int) (Q : Exit → Go.Act → World → Prop) (W : World) (f0 : W.cell? ⟨qb, 0, none⟩ = some (.int .u32 (ya : Int))) (f1 : W.cell? ⟨qb, 1, none⟩ = some (.int .i64 yn)) (s1 : (ky : Int) < (m2 : Int)) (y0 : W.cell? ⟨br, or_ + ky * 3, none⟩ = some (.int .u32 (ya : Int))) (y1 : W.cell? ⟨br, or_ + ky * 3 + 1, none⟩ = some (.int .i64 yn)) (y2 : W.cell? ⟨br, or_ + ky * 3 + 2, none⟩ = some (.int .i64 yv))
    (hK : ∀ (x65 x66 x67 x68 x69 x70 x71 x72 x73 x74 x75 x76 x77 x78 x79 x80 x81 x82 x83 x84 x85 x86 x87 x88 x89 x90 x91 x92 x93 x94 x95 x96 x97 x98 x99 x100 x101 x102 x103 x104 x105 x106 x107 x108 x109 x110 x111 x112 x113 x114 x115 x116 x117 x118 x119 x120 x121 x122 x123 x124 x125 x126 x127 : Value), Q .normal ⟨#[u0, u1, u2, u3, u4, u5, u6, u7, .slice (some ⟨br, or_, none⟩) m2 c2, u9, u10, .int .i64 (-1), .int .i64 (ky : Int), .int .i64 0, .bool false, .pointer (some ⟨qb, 0, none⟩), .int .i64 yv, .bool true, u18, u19, u20, u21, u22, u23, u24, u25, u26, u27, u28, u29, u30, u31, u32, u33, u34, u35, u36, u37, u38, u39, u40, u41, u42, u43, u44, u45, u46, u47, u48, u49, u50, u51, u52, u53, u54, u55, u56, u57, u58, u59, u60, u61, u62, u63, u64, x65, x66, x67, x68, x69, x70, x71, x72, x73, x74, x75, x76, x77, x78, x79, x80, x81, x82, x83, x84, x85, x86, x87, x88, x89, x90, x91, x92, x93, x94, x95, x96, x97, x98, x99, x100, x101, x102, x103, x104, x105, x106, x107, x108, x109, x110, x111, x112, x113, x114, x115, x116, x117, x118, x119, x120, x121, x122, x123, x124, x125, x126, x127, .bool false, u129, u130, u131, u132, u133, u134, u135, u136, u137, u138, u139, u140, u141, u142, u143, u144, u145, u146, u147, u148, u149, u150, u151, u152, u153, u154, u155, u156, u157, u158, u159, u160, u161, u162, u163, u164, u165, u166, u167, u168, u169, u170, u171, u172, u173, u174, u175, u176, u177, u178, u179, u180, u181, u182, u183, u184, u185, u186, u187, u188, u189, u190, u191], []⟩ W.drew) :
    Code.wp Try.prog r11C Q ⟨#[u0, u1, u2, u3, u4, u5, u6, u7, .slice (some ⟨br, or_, none⟩) m2 c2, u9, u10, .int .i64 (-1), .int .i64 (ky : Int), .int .i64 0, .bool false, .pointer (some ⟨qb, 0, none⟩), .int .i64 yv, .bool true, u18, u19, u20, u21, u22, u23, u24, u25, u26, u27, u28, u29, u30, u31, u32, u33, u34, u35, u36, u37, u38, u39, u40, u41, u42, u43, u44, u45, u46, u47, u48, u49, u50, u51, u52, u53, u54, u55, u56, u57, u58, u59, u60, u61, u62, u63, u64, u65, u66, u67, u68, u69, u70, u71, u72, u73, u74, u75, u76, u77, u78, u79, u80, u81, u82, u83, u84, u85, u86, u87, u88, u89, u90, u91, u92, u93, u94, u95, u96, u97, u98, u99, u100, u101, u102, u103, u104, u105, u106, u107, u108, u109, u110, u111, u112, u113, u114, u115, u116, u117, u118, u119, u120, u121, u122, u123, u124, u125, u126, u127, u128, u129, u130, u131, u132, u133, u134, u135, u136, u137, u138, u139, u140, u141, u142, u143, u144, u145, u146, u147, u148, u149, u150, u151, u152, u153, u154, u155, u156, u157, u158, u159, u160, u161, u162, u163, u164, u165, u166, u167, u168, u169, u170, u171, u172, u173, u174, u175, u176, u177, u178, u179, u180, u181, u182, u183, u184, u185, u186, u187, u188, u189, u190, u191], []⟩ W := by
  conv => arg 2; whnf
  replace f0 := ((Below.refl W.heap.size W).drew.cell (block_lt_of_cell f0)).trans f0
  replace f1 := ((Below.refl W.heap.size W).drew.cell (block_lt_of_cell f1)).trans f1
  replace y0 := ((Below.refl W.heap.size W).drew.cell (block_lt_of_cell y0)).trans y0
  replace y1 := ((Below.refl W.heap.size W).drew.cell (block_lt_of_cell y1)).trans y1
  replace y2 := ((Below.refl W.heap.size W).drew.cell (block_lt_of_cell y2)).trans y2
  have s0 : (0 : Int) ≤ (ky : Int) := by omega
  refine wp_region_noPanic ?_
  refine wp_region_held_drew (S := fun w' => w'.cell? ⟨qb, 0, none⟩ = some (.int .u32 (ya : Int)) ∧ w'.cell? ⟨qb, 1, none⟩ = some (.int .i64 yn) ∧ w'.cell? ⟨br, or_ + ky * 3, none⟩ = some (.int .u32 (ya : Int)) ∧ w'.cell? ⟨br, or_ + ky * 3 + 1, none⟩ = some (.int .i64 yn) ∧ w'.cell? ⟨br, or_ + ky * 3 + 2, none⟩ = some (.int .i64 yv)) (by kernel_rfl) ⟨f0, f1, y0, y1, y2⟩ (fun hHeld => ?_)
  refine Take.tk 0 65 hHeld ?_
  refine Take.tk 1 66 hHeld ?_
  try simp only [Act.put, Take.nm]
  refine Take.tk 2 67 hHeld ?_
  refine Take.tk 3 68 hHeld ?_
  try simp only [Act.put, Take.nm]
  refine Take.tk 4 69 hHeld ?_
  refine Take.tk 5 70 hHeld ?_
  try simp only [Act.put, Take.nm]
  refine Take.tk 6 71 hHeld ?_
  refine Take.sk [(7, 72), (8, 73), (9, 74), (10, 75), (11, 76), (12, 77), (13, 78)] hHeld ?_
  try simp only [Take.fl, Act.put, Take.nm]
  refine Take.tk 14 79 hHeld ?_
  try simp only [Act.put, Take.nm]
  refine Take.tk 15 80 hHeld ?_
  refine Take.tk 16 81 hHeld ?_
  try simp only [Act.put, Take.nm]
  refine Take.tk 17 82 hHeld ?_
  refine Take.tk 18 83 hHeld ?_
  try simp only [Act.put, Take.nm]
  refine Take.tk 19 84 hHeld ?_
  refine Take.tk 20 85 hHeld ?_
  try simp only [Act.put, Take.nm]
  refine Take.tk 21 86 hHeld ?_
  refine Take.tk 22 87 hHeld ?_
  try simp only [Act.put, Take.nm]
  refine Take.tk 23 88 hHeld ?_
  refine Take.tk 24 89 hHeld ?_
  try simp only [Act.put, Take.nm]
  refine Take.tk 25 90 hHeld ?_
  refine Take.tk 26 91 hHeld ?_
  try simp only [Act.put, Take.nm]
  refine Take.tk 27 92 hHeld ?_
  refine Take.tk 28 93 hHeld ?_
  try simp only [Act.put, Take.nm]
  refine Take.tk 29 94 hHeld ?_
  refine Take.tk 30 95 hHeld ?_
  try simp only [Act.put, Take.nm]
  refine Take.tk 31 96 hHeld ?_
  refine Take.tk 32 97 hHeld ?_
  try simp only [Act.put, Take.nm]
  refine Take.tk 33 98 hHeld ?_
  refine Take.tk 34 99 hHeld ?_
  try simp only [Act.put, Take.nm]
  refine Take.tk 35 100 hHeld ?_
  refine Take.tk 36 101 hHeld ?_
  try simp only [Act.put, Take.nm]
  refine Take.tk 37 102 hHeld ?_
  refine Take.tk 38 103 hHeld ?_
  try simp only [Act.put, Take.nm]
  refine Take.tk 39 104 hHeld ?_
  refine Take.tk 40 105 hHeld ?_
  try simp only [Act.put, Take.nm]
  refine Take.tk 41 106 hHeld ?_
  refine Take.tk 42 107 hHeld ?_
  try simp only [Act.put, Take.nm]
  refine Take.tk 43 108 hHeld ?_
  refine Take.tk 44 109 hHeld ?_
  try simp only [Act.put, Take.nm]
  refine Take.tk 45 110 hHeld ?_
  refine Take.tk 46 111 hHeld ?_
  try simp only [Act.put, Take.nm]
  refine Take.tk 47 112 hHeld ?_
  refine Take.tk 48 113 hHeld ?_
  try simp only [Act.put, Take.nm]
  refine Take.tk 49 114 hHeld ?_
  refine Take.tk 50 115 hHeld ?_
  try simp only [Act.put, Take.nm]
  refine Take.tk 51 116 hHeld ?_
  refine Take.tk 52 117 hHeld ?_
  try simp only [Act.put, Take.nm]
  refine Take.tk 53 118 hHeld ?_
  refine Take.tk 54 119 hHeld ?_
  try simp only [Act.put, Take.nm]
  refine Take.sk [(55, 120), (56, 121), (57, 122), (58, 123), (59, 124), (60, 125), (61, 126)] hHeld ?_
  try simp only [Take.fl, Act.put, Take.nm]
  refine Take.tk 62 127 hHeld ?_
  refine Take.tk 63 128 hHeld ?_
  try simp only [Act.put, Take.nm]
  try simp only [Act.put, Take.nm]
  clear hHeld
  refine wpAnyH_done (by kernel_rfl) ?_ _
  refine NoPanic.normal ?_
  exact hK _ _ _ _ _ _ _ _ _ _ _ _ _ _ _ _ _ _ _ _ _ _ _ _ _ _ _ _ _ _ _ _ _ _ _ _ _ _ _ _ _ _ _ _ _ _ _ _ _ _ _ _ _ _ _ _ _ _ _ _ _ _ _
end Go.Proofs.Ytpcahgnibdampaa.Tri
namespace Go.Proofs.Ytpcahgnibdampaa.Tri
open Go.RowKit Mem PR Pfx Oct
set_option maxRecDepth 1000000 in
set_option maxHeartbeats 16000000 in
theorem r11_SN (u0 u1 u2 u3 u4 u5 u6 u7 u9 u10 u18 u19 u20 u21 u22 u23 u24 u25 u26 u27 u28 u29 u30 u31 u32 u33 u34 u35 u36 u37 u38 u39 u40 u41 u42 u43 u44 u45 u46 u47 u48 u49 u50 u51 u52 u53 u54 u55 u56 u57 u58 u59 u60 u61 u62 u63 u64 u65 u66 u67 u68 u69 u70 u71 u72 u73 u74 u75 u76 u77 u78 u79 u80 u81 u82 u83 u84 u85 u86 u87 u88 u89 u90 u91 u92 u93 u94 u95 u96 u97 u98 u99 u100 u101 u102 u103 u104 u105 u106 u107 u108 u109 u110 u111 u112 u113 u114 u115 u116 u117 u118 u119 u120 u121 u122 u123 u124 u125 u126 u127 u128 u129 u130 u131 u132 u133 u134 u135 u136 u137 u138 u139 u140 u141 u142 u143 u144 u145 u146 u147 u148 u149 u150 u151 u152 u153 u154 u155 u156 u157 u158 u159 u160 u161 u162 u163 u164 u165 u166 u167 u168 u169 u170 u171 u172 u173 u174 u175 u176 u177 u178 u179 u180 u181 u182 u183 u184 u185 u186 u187 u188 u189 u190 u191 : Value) (m2 : Nat) (c2 : Nat) (qb : Nat) (br : Nat) (or_ : Nat) (kp : Nat) (pv : Int) (Q : Exit → Go.Act → World → Prop) (W : World) (f0 : W.cell? ⟨qb, 0, none⟩ = some (.int .u32 0)) (f1 : W.cell? ⟨qb, 1, none⟩ = some (.int .i64 0)) (p1 : (kp : Int) < (m2 : Int)) (px : W.cell? ⟨br, or_ + kp * 3 + 2, none⟩ = some (.int .i64 pv))
    (hK : ∀ (x65 x66 x67 x68 x69 x70 x71 x72 x73 x74 x75 x76 x77 x78 x79 x80 x81 x82 x83 x84 x85 x86 x87 x88 x89 x90 x91 x92 x93 x94 x95 x96 x97 x98 x99 x100 x101 x102 x103 x104 x105 x106 x107 x108 x109 x110 x111 x112 x113 x114 x115 x116 x117 x118 x119 x120 x121 x122 x123 x124 x125 x126 x127 : Value), Q .normal ⟨#[u0, u1, u2, u3, u4, u5, u6, u7, .slice (some ⟨br, or_, none⟩) m2 c2, u9, u10, .int .i64 (kp : Int), .int .i64 (-1), .int .i64 pv, .bool true, .pointer (some ⟨qb, 0, none⟩), .int .i64 0, .bool false, u18, u19, u20, u21, u22, u23, u24, u25, u26, u27, u28, u29, u30, u31, u32, u33, u34, u35, u36, u37, u38, u39, u40, u41, u42, u43, u44, u45, u46, u47, u48, u49, u50, u51, u52, u53, u54, u55, u56, u57, u58, u59, u60, u61, u62, u63, u64, x65, x66, x67, x68, x69, x70, x71, x72, x73, x74, x75, x76, x77, x78, x79, x80, x81, x82, x83, x84, x85, x86, x87, x88, x89, x90, x91, x92, x93, x94, x95, x96, x97, x98, x99, x100, x101, x102, x103, x104, x105, x106, x107, x108, x109, x110, x111, x112, x113, x114, x115, x116, x117, x118, x119, x120, x121, x122, x123, x124, x125, x126, x127, .bool false, u129, u130, u131, u132, u133, u134, u135, u136, u137, u138, u139, u140, u141, u142, u143, u144, u145, u146, u147, u148, u149, u150, u151, u152, u153, u154, u155, u156, u157, u158, u159, u160, u161, u162, u163, u164, u165, u166, u167, u168, u169, u170, u171, u172, u173, u174, u175, u176, u177, u178, u179, u180, u181, u182, u183, u184, u185, u186, u187, u188, u189, u190, u191], []⟩ W.drew) :
    Code.wp Try.prog r11C Q ⟨#[u0, u1, u2, u3, u4, u5, u6, u7, .slice (some ⟨br, or_, none⟩) m2 c2, u9, u10, .int .i64 (kp : Int), .int .i64 (-1), .int .i64 pv, .bool true, .pointer (some ⟨qb, 0, none⟩), .int .i64 0, .bool false, u18, u19, u20, u21, u22, u23, u24, u25, u26, u27, u28, u29, u30, u31, u32, u33, u34, u35, u36, u37, u38, u39, u40, u41, u42, u43, u44, u45, u46, u47, u48, u49, u50, u51, u52, u53, u54, u55, u56, u57, u58, u59, u60, u61, u62, u63, u64, u65, u66, u67, u68, u69, u70, u71, u72, u73, u74, u75, u76, u77, u78, u79, u80, u81, u82, u83, u84, u85, u86, u87, u88, u89, u90, u91, u92, u93, u94, u95, u96, u97, u98, u99, u100, u101, u102, u103, u104, u105, u106, u107, u108, u109, u110, u111, u112, u113, u114, u115, u116, u117, u118, u119, u120, u121, u122, u123, u124, u125, u126, u127, u128, u129, u130, u131, u132, u133, u134, u135, u136, u137, u138, u139, u140, u141, u142, u143, u144, u145, u146, u147, u148, u149, u150, u151, u152, u153, u154, u155, u156, u157, u158, u159, u160, u161, u162, u163, u164, u165, u166, u167, u168, u169, u170, u171, u172, u173, u174, u175, u176, u177, u178, u179, u180, u181, u182, u183, u184, u185, u186, u187, u188, u189, u190, u191], []⟩ W := by
  conv => arg 2; whnf
  replace f0 := ((Below.refl W.heap.size W).drew.cell (block_lt_of_cell f0)).trans f0
  replace f1 := ((Below.refl W.heap.size W).drew.cell (block_lt_of_cell f1)).trans f1
  replace px := ((Below.refl W.heap.size W).drew.cell (block_lt_of_cell px)).trans px
  have p0 : (0 : Int) ≤ (kp : Int) := by omega
  refine wp_region_noPanic ?_
  refine wp_region_held_drew (S := fun w' => w'.cell? ⟨qb, 0, none⟩ = some (.int .u32 0) ∧ w'.cell? ⟨qb, 1, none⟩ = some (.int .i64 0) ∧ w'.cell? ⟨br, or_ + kp * 3 + 2, none⟩ = some (.int .i64 pv)) (by kernel_rfl) ⟨f0, f1, px⟩ (fun hHeld => ?_)
  refine Take.tk 0 65 hHeld ?_
  refine Take.tk 1 66 hHeld ?_
  try simp only [Act.put, Take.nm]
  refine Take.tk 2 67 hHeld ?_
  refine Take.tk 3 68 hHeld ?_
  try simp only [Act.put, Take.nm]
  refine Take.tk 4 69 hHeld ?_
  refine Take.tk 5 70 hHeld ?_
  try simp only [Act.put, Take.nm]
  refine Take.tk 6 71 hHeld ?_
  refine Take.tk 7 72 hHeld ?_
  try simp only [Act.put, Take.nm]
  refine Take.tk 8 73 hHeld ?_
  refine Take.tk 9 74 hHeld ?_
  try simp only [Act.put, Take.nm]
  refine Take.tk 10 75 hHeld ?_
  refine Take.tk 11 76 hHeld ?_
  try simp only [Act.put, Take.nm]
  refine Take.tk 12 77 hHeld ?_
  refine Take.tk 13 78 hHeld ?_
  try simp only [Act.put, Take.nm]
  refine Take.tk 14 79 hHeld ?_
  refine Take.tk 15 80 hHeld ?_
  try simp only [Act.put, Take.nm]
  refine Take.tk 16 81 hHeld ?_
  refine Take.tk 17 82 hHeld ?_
  try simp only [Act.put, Take.nm]
  refine Take.tk 18 83 hHeld ?_
  refine Take.tk 19 84 hHeld ?_
  try simp only [Act.put, Take.nm]
  refine Take.sk [(20, 85), (21, 86)] hHeld ?_
  try simp only [Take.fl, Act.put, Take.nm]
  refine Take.tk 22 87 hHeld ?_
  refine Take.tk 23 88 hHeld ?_
  try simp only [Act.put, Take.nm]
  refine Take.tk 24 89 hHeld ?_
  refine Take.tk 25 90 hHeld ?_
  try simp only [Act.put, Take.nm]
  refine Take.tk 26 91 hHeld ?_
  refine Take.tk 27 92 hHeld ?_
  try simp only [Act.put, Take.nm]
  refine Take.tk 28 93 hHeld ?_
  refine Take.tk 29 94 hHeld ?_
  try simp only [Act.put, Take.nm]
  refine Take.tk 30 95 hHeld ?_
  refine Take.tk 31 96 hHeld ?_
  try simp only [Act.put, Take.nm]
  refine Take.tk 32 97 hHeld ?_
  refine Take.sk [(33, 98), (34, 99), (35, 100), (36, 101), (37, 102), (38, 103), (39, 104), (40, 105), (41, 106), (42, 107), (43, 108), (44, 109), (45, 110), (46, 111), (47, 112), (48, 113)] hHeld ?_
  try simp only [Take.fl, Act.put, Take.nm]
  refine Take.tk 49 114 hHeld ?_
  try simp only [Act.put, Take.nm]
  refine Take.tk 50 115 hHeld ?_
  refine Take.tk 51 116 hHeld ?_
  try simp only [Act.put, Take.nm]
  refine Take.tk 52 117 hHeld ?_
  refine Take.tk 53 118 hHeld ?_
  try simp only [Act.put, Take.nm]
  refine Take.tk 54 119 hHeld ?_
  refine Take.tk 55 120 hHeld ?_
  try simp only [Act.put, Take.nm]
  refine Take.tk 56 121 hHeld ?_
  refine Take.tk 57 122 hHeld ?_
  try simp only [Act.put, Take.nm]
  refine Take.tk 58 123 hHeld ?_
  refine Take.tk 59 124 hHeld ?_
  try simp only [Act.put, Take.nm]
  refine Take.tk 60 125 hHeld ?_
  refine Take.tk 61 126 hHeld ?_
  try simp only [Act.put, Take.nm]
  refine Take.tk 62 127 hHeld ?_
  refine Take.tk 63 128 hHeld ?_
  try simp only [Act.put, Take.nm]
  try simp only [Act.put, Take.nm]
  clear hHeld
  refine wpAnyH_done (by kernel_rfl) ?_ _
  refine NoPanic.normal ?_
  exact hK _ _ _ _ _ _ _ _ _ _ _ _ _ _ _ _ _ _ _ _ _ _ _ _ _ _ _ _ _ _ _ _ _ _ _ _ _ _ _ _ _ _ _ _ _ _ _ _ _ _ _ _ _ _ _ _ _ _ _ _ _ _ _
end Go.Proofs.Ytpcahgnibdampaa.Tri
namespace Go.Proofs.Ytpcahgnibdampaa.Tri
open Go.RowKit Mem PR Pfx Oct
set_option maxRecDepth 1000000 in
set_option maxHeartbeats 16000000 in
theorem r11_SS (u0 u1 u2 u3 u4 u5 u6 u7 u9 u10 u18 u19 u20 u21 u22 u23 u24 u25 u26 u27 u28 u29 u30 u31 u32 u33 u34 u35 u36 u37 u38 u39 u40 u41 u42 u43 u44 u45 u46 u47 u48 u49 u50 u51 u52 u53 u54 u55 u56 u57 u58 u59 u60 u61 u62 u63 u64 u65 u66 u67 u68 u69 u70 u71 u72 u73 u74 u75 u76 u77 u78 u79 u80 u81 u82 u83 u84 u85 u86 u87 u88 u89 u90 u91 u92 u93 u94 u95 u96 u97 u98 u99 u100 u101 u102 u103 u104 u105 u106 u107 u108 u109 u110 u111 u112 u113 u114 u115 u116 u117 u118 u119 u120 u121 u122 u123 u124 u125 u126 u127 u128 u129 u130 u131 u132 u133 u134 u135 u136 u137 u138 u139 u140 u141 u142 u143 u144 u145 u146 u147 u148 u149 u150 u151 u152 u153 u154 u155 u156 u157 u158 u159 u160 u161 u162 u163 u164 u165 u166 u167 u168 u169 u170 u171 u172 u173 u174 u175 u176 u177 u178 u179 u180 u181 u182 u183 u184 u185 u186 u187 u188 u189 u190 u191 : Value) (m2 : Nat) (c2 : Nat) (qb : Nat) (br : Nat) (or_ : Nat) (kp : Nat) (pv : Int) (ky : Nat) (ya : Nat) (yn : Int) (yv : Int) (Q : Exit → Go.Act → World → Prop) (W : World) (f0 : W.cell? ⟨qb, 0, none⟩ = some (.int .u32 (ya : Int))) (f1 : W.cell? ⟨qb, 1, none⟩ = some (.int .i64 yn)) (p1 : (kp : Int) < (m2 : Int)) (px : W.cell? ⟨br, or_ + kp * 3 + 2, none⟩ = some (.int .i64 pv)) (s1 : (ky : Int) < (m2 : Int)) (y0 : W.cell? ⟨br, or_ + ky * 3, none⟩ = some (.int .u32 (ya : Int))) (y1 : W.cell? ⟨br, or_ + ky * 3 + 1, none⟩ = some (.int .i64 yn)) (y2 : W.cell? ⟨br, or_ + ky * 3 + 2, none⟩ = some (.int .i64 yv))
    (hK : ∀ (x65 x66 x67 x68 x69 x70 x71 x72 x73 x74 x75 x76 x77 x78 x79 x80 x81 x82 x83 x84 x85 x86 x87 x88 x89 x90 x91 x92 x93 x94 x95 x96 x97 x98 x99 x100 x101 x102 x103 x104 x105 x106 x107 x108 x109 x110 x111 x112 x113 x114 x115 x116 x117 x118 x119 x120 x121 x122 x123 x124 x125 x126 x127 : Value), Q .normal ⟨#[u0, u1, u2, u3, u4, u5, u6, u7, .slice (some ⟨br, or_, none⟩) m2 c2, u9, u10, .int .i64 (kp : Int), .int .i64 (ky : Int), .int .i64 pv, .bool true, .pointer (some ⟨qb, 0, none⟩), .int .i64 yv, .bool true, u18, u19, u20, u21, u22, u23, u24, u25, u26, u27, u28, u29, u30, u31, u32, u33, u34, u35, u36, u37, u38, u39, u40, u41, u42, u43, u44, u45, u46, u47, u48, u49, u50, u51, u52, u53, u54, u55, u56, u57, u58, u59, u60, u61, u62, u63, u64, x65, x66, x67, x68, x69, x70, x71, x72, x73, x74, x75, x76, x77, x78, x79, x80, x81, x82, x83, x84, x85, x86, x87, x88, x89, x90, x91, x92, x93, x94, x95, x96, x97, x98, x99, x100, x101, x102, x103, x104, x105, x106, x107, x108, x109, x110, x111, x112, x113, x114, x115, x116, x117, x118, x119, x120, x121, x122, x123, x124, x125, x126, x127, .bool false, u129, u130, u131, u132, u133, u134, u135, u136, u137, u138, u139, u140, u141, u142, u143, u144, u145, u146, u147, u148, u149, u150, u151, u152, u153, u154, u155, u156, u157, u158, u159, u160, u161, u162, u163, u164, u165, u166, u167, u168, u169, u170, u171, u172, u173, u174, u175, u176, u177, u178, u179, u180, u181, u182, u183, u184, u185, u186, u187, u188, u189, u190, u191], []⟩ W.drew) :
    Code.wp Try.prog r11C Q ⟨#[u0, u1, u2, u3, u4, u5, u6, u7, .slice (some ⟨br, or_, none⟩) m2 c2, u9, u10, .int .i64 (kp : Int), .int .i64 (ky : Int), .int .i64 pv, .bool true, .pointer (some ⟨qb, 0, none⟩), .int .i64 yv, .bool true, u18, u19, u20, u21, u22, u23, u24, u25, u26, u27, u28, u29, u30, u31, u32, u33, u34, u35, u36, u37, u38, u39, u40, u41, u42, u43, u44, u45, u46, u47, u48, u49, u50, u51, u52, u53, u54, u55, u56, u57, u58, u59, u60, u61, u62, u63, u64, u65, u66, u67, u68, u69, u70, u71, u72, u73, u74, u75, u76, u77, u78, u79, u80, u81, u82, u83, u84, u85, u86, u87, u88, u89, u90, u91, u92, u93, u94, u95, u96, u97, u98, u99, u100, u101, u102, u103, u104, u105, u106, u107, u108, u109, u110, u111, u112, u113, u114, u115, u116, u117, u118, u119, u120, u121, u122, u123, u124, u125, u126, u127, u128, u129, u130, u131, u132, u133, u134, u135, u136, u137, u138, u139, u140, u141, u142, u143, u144, u145, u146, u147, u148, u149, u150, u151, u152, u153, u154, u155, u156, u157, u158, u159, u160, u161, u162, u163, u164, u165, u166, u167, u168, u169, u170, u171, u172, u173, u174, u175, u176, u177, u178, u179, u180, u181, u182, u183, u184, u185, u186, u187, u188, u189, u190, u191], []⟩ W := by
  conv => arg 2; whnf
  replace f0 := ((Below.refl W.heap.size W).drew.cell (block_lt_of_cell f0)).trans f0
  replace f1 := ((Below.refl W.heap.size W).drew.cell (block_lt_of_cell f1)).trans f1
  replace px := ((Below.refl W.heap.size W).drew.cell (block_lt_of_cell px)).trans px
  replace y0 := ((Below.refl W.heap.size W).drew.cell (block_lt_of_cell y0)).trans y0
  replace y1 := ((Below.refl W.heap.size W).drew.cell (block_lt_of_cell y1)).trans y1
  replace y2 := ((Below.refl W.heap.size W).drew.cell (block_lt_of_cell y2)).trans y2
  have p0 : (0 : Int) ≤ (kp : Int) := by omega
  have s0 : (0 : Int) ≤ (ky : Int) := by omega
  refine wp_region_noPanic ?_
  refine wp_region_held_drew (S := fun w' => w'.cell? ⟨qb, 0, none⟩ = some (.int .u32 (ya : Int)) ∧ w'.cell? ⟨qb, 1, none⟩ = some (.int .i64 yn) ∧ w'.cell? ⟨br, or_ + kp * 3 + 2, none⟩ = some (.int .i64 pv) ∧ w'.cell? ⟨br, or_ + ky * 3, none⟩ = some (.int .u32 (ya : Int)) ∧ w'.cell? ⟨br, or_ + ky * 3 + 1, none⟩ = some (.int .i64 yn) ∧ w'.cell? ⟨br, or_ + ky * 3 + 2, none⟩ = some (.int .i64 yv)) (by kernel_rfl) ⟨f0, f1, px, y0, y1, y2⟩ (fun hHeld => ?_)
  refine Take.tk 0 65 hHeld ?_
  refine Take.tk 1 66 hHeld ?_
  try simp only [Act.put, Take.nm]
  refine Take.tk 2 67 hHeld ?_
  refine Take.tk 3 68 hHeld ?_
  try simp only [Act.put, Take.nm]
  refine Take.tk 4 69 hHeld ?_
  refine Take.tk 5 70 hHeld ?_
  try simp only [Act.put, Take.nm]
  refine Take.tk 6 71 hHeld ?_
  refine Take.tk 7 72 hHeld ?_
  try simp only [Act.put, Take.nm]
  refine Take.tk 8 73 hHeld ?_
  refine Take.tk 9 74 hHeld ?_
  try simp only [Act.put, Take.nm]
  refine Take.tk 10 75 hHeld ?_
  refine Take.tk 11 76 hHeld ?_
  try simp only [Act.put, Take.nm]
  refine Take.tk 12 77 hHeld ?_
  refine Take.tk 13 78 hHeld ?_
  try simp only [Act.put, Take.nm]
  refine Take.tk 14 79 hHeld ?_
  refine Take.tk 15 80 hHeld ?_
  try simp only [Act.put, Take.nm]
  refine Take.tk 16 81 hHeld ?_
  refine Take.tk 17 82 hHeld ?_
  try simp only [Act.put, Take.nm]
  refine Take.tk 18 83 hHeld ?_
  refine Take.tk 19 84 hHeld ?_
  try simp only [Act.put, Take.nm]
  refine Take.sk [(20, 85), (21, 86)] hHeld ?_
  try simp only [Take.fl, Act.put, Take.nm]
  refine Take.tk 22 87 hHeld ?_
  refine Take.tk 23 88 hHeld ?_
  try simp only [Act.put, Take.nm]
  refine Take.tk 24 89 hHeld ?_
  refine Take.tk 25 90 hHeld ?_
  try simp only [Act.put, Take.nm]
  refine Take.tk 26 91 hHeld ?_
  refine Take.tk 27 92 hHeld ?_
  try simp only [Act.put, Take.nm]
  refine Take.tk 28 93 hHeld ?_
  refine Take.tk 29 94 hHeld ?_
  try simp only [Act.put, Take.nm]
  refine Take.tk 30 95 hHeld ?_
  refine Take.tk 31 96 hHeld ?_
  try simp only [Act.put, Take.nm]
  refine Take.tk 32 97 hHeld ?_
  refine Take.tk 33 98 hHeld ?_
  try simp only [Act.put, Take.nm]
  refine Take.tk 34 99 hHeld ?_
  refine Take.tk 35 100 hHeld ?_
  try simp only [Act.put, Take.nm]
  refine Take.tk 36 101 hHeld ?_
  refine Take.tk 37 102 hHeld ?_
  try simp only [Act.put, Take.nm]
  refine Take.tk 38 103 hHeld ?_
  refine Take.tk 39 104 hHeld ?_
  try simp only [Act.put, Take.nm]
  refine Take.tk 40 105 hHeld ?_
  refine Take.tk 41 106 hHeld ?_
  try simp only [Act.put, Take.nm]
  refine Take.tk 42 107 hHeld ?_
  refine Take.tk 43 108 hHeld ?_
  try simp only [Act.put, Take.nm]
  refine Take.tk 44 109 hHeld ?_
  refine Take.tk 45 110 hHeld ?_
  try simp only [Act.put, Take.nm]
  refine Take.tk 46 111 hHeld ?_
  refine Take.tk 47 112 hHeld ?_
  try simp only [Act.put, Take.nm]
  refine Take.tk 48 113 hHeld ?_
  refine Take.tk 49 114 hHeld ?_
  try simp only [Act.put, Take.nm]
  refine Take.tk 50 115 hHeld ?_
  refine Take.tk 51 116 hHeld ?_
  try simp only [Act.put, Take.nm]
  refine Take.tk 52 117 hHeld ?_
  refine Take.tk 53 118 hHeld ?_
  try simp only [Act.put, Take.nm]
  refine Take.tk 54 119 hHeld ?_
  refine Take.sk [(55, 120), (56, 121), (57, 122), (58, 123), (59, 124), (60, 125), (61, 126)] hHeld ?_
  try simp only [Take.fl, Act.put, Take.nm]
  refine Take.tk 62 127 hHeld ?_
  try simp only [Act.put, Take.nm]
  refine Take.tk 63 128 hHeld ?_
  try simp only [Act.put, Take.nm]
  clear hHeld
  refine wpAnyH_done (by kernel_rfl) ?_ _
  refine NoPanic.normal ?_
  exact hK _ _ _ _ _ _ _ _ _ _ _ _ _ _ _ _ _ _ _ _ _ _ _ _ _ _ _ _ _ _ _ _ _ _ _ _ _ _ _ _ _ _ _ _ _ _ _ _ _ _ _ _ _ _ _ _ _ _ _ _ _ _ _
end Go.Proofs.Ytpcahgnibdampaa.Tri
