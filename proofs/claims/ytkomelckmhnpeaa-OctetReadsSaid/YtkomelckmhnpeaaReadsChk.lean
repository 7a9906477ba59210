/- OctetReads: what is asked behind each call. -/
import Derived.Test.YtkomelckmhnpeaaReadsKit
namespace Go.Proofs.Ytkomelckmhnpeaa.Oct
open Go.RowKit Mem Ahead Kit

set_option maxRecDepth 1000000 in
set_option maxHeartbeats 8000000 in
theorem chk_rd (u0 u1 u2 u3 u4 u5 u6 u10 u11 u12 u13 u14 u16 u17 u18 u19 u20 u21 u22 u23 u24 u25 u26 u27 u28 u29 u30 u31 u32 u33 u34 u35 u36 u37 u38 u39 u40 u41 u42 u43 u44 u45 u46 u47 u48 u49 u50 u51 u52 u53 u54 u55 u56 u57 u58 u59 u60 u61 u62 u63 u64 u65 u66 u67 u68 u69 u70 u71 u72 u73 u74 u75 u76 u77 u78 u79 u80 u81 u82 u83 u84 u85 u86 u87 u88 u89 u90 u91 u92 u93 u94 u95 u96 u97 u98 u99 u100 u101 u102 u103 u104 u105 u106 u107 u108 u109 u110 u111 u112 u113 u114 u115 u116 u117 u118 u119 u120 u121 u122 u123 u124 u125 u126 u127 u128 u129 u130 u131 u132 u133 u134 u135 u136 u137 u138 u139 u140 u141 u142 u143 u144 u145 u146 u147 u148 u149 u150 u151 u152 u153 u154 u155 u156 P : Value) (A : Option Addr) (c n m : Nat) (l : List Nat) (bd b9 : Bool) (F : Nat → Prop) (w wr : World) (Q : Exit → Go.Act → World → Prop)
    (hS : Rd w n P F l bd (.slice A m c) wr) (hb9 : b9 = bd) (hm : m = l.length)
    (hK : ∀ (x141 x142 x143 x144 x145 x146 x147 x148 x149 x150 x151 x152 x153 x154 x155 : Value) (W : World), Rd w n P F l bd (.slice A m c) W → Q .normal ⟨#[u0, u1, u2, u3, u4, u5, u6, P, .slice A m c, .bool b9, u10, u11, u12, u13, u14, .bool true, u16, u17, u18, u19, u20, u21, u22, u23, u24, u25, u26, u27, u28, u29, u30, u31, u32, u33, u34, u35, u36, u37, u38, u39, u40, u41, u42, u43, u44, u45, u46, u47, u48, u49, u50, u51, u52, u53, u54, u55, u56, u57, u58, u59, u60, u61, u62, u63, u64, u65, u66, u67, u68, u69, u70, u71, u72, u73, u74, u75, u76, u77, u78, u79, u80, u81, u82, u83, u84, u85, u86, u87, u88, u89, u90, u91, u92, u93, u94, u95, u96, u97, u98, u99, u100, u101, u102, u103, u104, u105, u106, u107, u108, u109, u110, u111, u112, u113, u114, u115, u116, u117, u118, u119, u120, u121, u122, u123, u124, u125, u126, u127, u128, u129, u130, u131, u132, u133, u134, u135, u136, u137, u138, u139, u140, x141, x142, x143, x144, x145, x146, x147, x148, x149, x150, x151, x152, x153, x154, x155, u156], []⟩ W) :
    Code.wp Try.prog rdChk Q ⟨#[u0, u1, u2, u3, u4, u5, u6, P, .slice A m c, .bool b9, u10, u11, u12, u13, u14, .bool true, u16, u17, u18, u19, u20, u21, u22, u23, u24, u25, u26, u27, u28, u29, u30, u31, u32, u33, u34, u35, u36, u37, u38, u39, u40, u41, u42, u43, u44, u45, u46, u47, u48, u49, u50, u51, u52, u53, u54, u55, u56, u57, u58, u59, u60, u61, u62, u63, u64, u65, u66, u67, u68, u69, u70, u71, u72, u73, u74, u75, u76, u77, u78, u79, u80, u81, u82, u83, u84, u85, u86, u87, u88, u89, u90, u91, u92, u93, u94, u95, u96, u97, u98, u99, u100, u101, u102, u103, u104, u105, u106, u107, u108, u109, u110, u111, u112, u113, u114, u115, u116, u117, u118, u119, u120, u121, u122, u123, u124, u125, u126, u127, u128, u129, u130, u131, u132, u133, u134, u135, u136, u137, u138, u139, u140, u141, u142, u143, u144, u145, u146, u147, u148, u149, u150, u151, u152, u153, u154, u155, u156], []⟩ wr := by
  subst hb9 hm
  have HK := Go.Lib.hid hK
  have HS := Go.Lib.hid hS
  have CL := Go.Lib.hid (fun (W : World) (h : R W w.heap.size n P l b9 F) => left_any P w.heap.size n l b9 F W h)
  have CB := Go.Lib.hid (fun (W : World) (h : R W w.heap.size n P l b9 F) => bad_any P w.heap.size n l b9 F W h)
  have hbb : (b9 == b9) = true := by simp
  clear hK hS
  conv => arg 2; whnf
  go_wp2_with (first
    | (go_at_call 16; have h := HS.out.rd; refine (CL.out _ h).mono ?_; rintro e w1 ⟨rfl, hb⟩; have H1 := Go.Lib.hid (HS.out.keep hb); clear hb h)
    | (go_at_call 15; have h := H1.out.rd; refine (CB.out _ h).mono ?_; rintro e w2 ⟨rfl, hb⟩; have H2 := Go.Lib.hid (H1.out.keep hb); clear hb h))
  exact HK.out _ _ _ _ _ _ _ _ _ _ _ _ _ _ _ _ H2.out
end Go.Proofs.Ytkomelckmhnpeaa.Oct
