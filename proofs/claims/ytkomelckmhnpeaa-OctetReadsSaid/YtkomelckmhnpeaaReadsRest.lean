/- OctetReads: a round that reads the rest. -/
import Derived.Test.YtkomelckmhnpeaaReadsKit
namespace Go.Proofs.Ytkomelckmhnpeaa.Oct
open Go.RowKit Mem Ahead Kit

set_option maxRecDepth 1000000 in
set_option maxHeartbeats 8000000 in
theorem sw_rest (u0 u1 u2 u3 u4 u5 u6 u9 u10 u15 u16 u17 u18 u19 u20 u21 u22 u23 u24 u25 u26 u27 u28 u29 u30 u31 u32 u33 u34 u35 u36 u37 u38 u39 u40 u41 u42 u43 u44 u45 u46 u47 u48 u49 u50 u51 u52 u53 u54 u55 u56 u57 u58 u59 u60 u61 u62 u63 u64 u65 u66 u67 u68 u69 u70 u71 u72 u73 u74 u75 u76 u77 u79 u80 u81 u82 u83 u84 u85 u86 u87 u88 u89 u90 u91 u92 u93 u94 u95 u96 u97 u98 u99 u100 u101 u102 u103 u104 u105 u106 u107 u108 u109 u110 u111 u112 u113 u114 u115 u116 u117 u118 u119 u120 u121 u122 u123 u124 u125 u126 u127 u128 u129 u130 u131 u132 u133 u134 u135 u136 u137 u138 u139 u140 u141 u142 u143 u144 u145 u146 u147 u148 u149 u150 u151 u152 u153 u154 u155 u156 P vl : Value) (Aw : Option Addr) (cw n m : Nat) (l : List Nat) (bd fb : Bool) (F : Nat → Prop) (w wr : World) (K : Go.Act → World → Prop) (Q : Exit → Go.Act → World → Prop)
    (hS : Sw w n P F l bd (l.length : Int) vl (.slice Aw m cw) wr) (hfb : fb = fails l bd (l.length : Int)) (hm : m = (got l bd (l.length : Int)).length)
    (hK : ∀ (x16 x79 x80 x81 x82 x83 x84 x85 x86 x87 x88 x89 x90 x91 x92 x93 x94 x95 x96 x97 x98 x99 x100 x101 x102 x103 x104 x105 x106 x107 x108 x109 x110 x111 x112 x113 x114 x115 x116 x117 x118 x119 x120 x121 x122 x123 x124 x125 x126 x127 x128 x129 x130 x131 x132 x133 x134 x135 x136 x137 x138 x139 x140 : Value) (W : World), Rd w n P F (rest l bd (l.length : Int)) (fails l bd (l.length : Int)) vl W → K ⟨#[u0, u1, u2, u3, u4, u5, u6, P, vl, u9, u10, .int .i64 (l.length : Int), .int .u8 5, .bool fb, .slice Aw m cw, .bool true, x16, u17, u18, u19, u20, u21, u22, u23, u24, u25, u26, u27, u28, u29, u30, u31, u32, u33, u34, u35, u36, u37, u38, u39, u40, u41, u42, u43, u44, u45, u46, u47, u48, u49, u50, u51, u52, u53, u54, u55, u56, u57, u58, u59, u60, u61, u62, u63, u64, u65, u66, u67, u68, u69, u70, u71, u72, u73, u74, u75, u76, u77, .int .u8 5, x79, x80, x81, x82, x83, x84, x85, x86, x87, x88, x89, x90, x91, x92, x93, x94, x95, x96, x97, x98, x99, x100, x101, x102, x103, x104, x105, x106, x107, x108, x109, x110, x111, x112, x113, x114, x115, x116, x117, x118, x119, x120, x121, x122, x123, x124, x125, x126, x127, x128, x129, x130, x131, x132, x133, x134, x135, x136, x137, x138, x139, x140, u141, u142, u143, u144, u145, u146, u147, u148, u149, u150, u151, u152, u153, u154, u155, u156], []⟩ W) :
    Code.wp Try.prog rdSw (Exit.then K Q) ⟨#[u0, u1, u2, u3, u4, u5, u6, P, vl, u9, u10, .int .i64 (l.length : Int), .int .u8 5, .bool fb, .slice Aw m cw, u15, u16, u17, u18, u19, u20, u21, u22, u23, u24, u25, u26, u27, u28, u29, u30, u31, u32, u33, u34, u35, u36, u37, u38, u39, u40, u41, u42, u43, u44, u45, u46, u47, u48, u49, u50, u51, u52, u53, u54, u55, u56, u57, u58, u59, u60, u61, u62, u63, u64, u65, u66, u67, u68, u69, u70, u71, u72, u73, u74, u75, u76, u77, .int .u8 5, u79, u80, u81, u82, u83, u84, u85, u86, u87, u88, u89, u90, u91, u92, u93, u94, u95, u96, u97, u98, u99, u100, u101, u102, u103, u104, u105, u106, u107, u108, u109, u110, u111, u112, u113, u114, u115, u116, u117, u118, u119, u120, u121, u122, u123, u124, u125, u126, u127, u128, u129, u130, u131, u132, u133, u134, u135, u136, u137, u138, u139, u140, u141, u142, u143, u144, u145, u146, u147, u148, u149, u150, u151, u152, u153, u154, u155, u156], []⟩ wr := by
  subst hfb hm
  have HK := Go.Lib.hid hK
  have HS := Go.Lib.hid hS
  have CU := Go.Lib.hid (fun (W : World) (h : R W w.heap.size n P l bd F) => rest_any P w.heap.size n l bd F W (Nat.le_trans hS.big (by decide)) h)
  have D := Go.Lib.hid (show Below wr.heap.size wr wr.drew from (Below.refl _ wr).drew)
  have HSD := Go.Lib.hid (hS.keep D.out)
  have k0 := text8 (hS.want.below D.out).1
  clear hK hS
  refine wp_dead ?_
  conv => arg 2; whnf
  go_wp2
  go_region_with (first
    | (go_at_call 17; have h := HSD.out.rd; refine (CU.out _ h).mono ?_; rintro e w1 ⟨A1, c1, rfl, hu, hR, ho⟩; have H1 := Go.Lib.hid (HSD.out.done hR ho); have k1 := text8 (HSD.out.want.only ho).1; have k2 := text8 hu; clear hu hR ho h))
  all_goals exact HK.out _ _ _ _ _ _ _ _ _ _ _ _ _ _ _ _ _ _ _ _ _ _ _ _ _ _ _ _ _ _ _ _ _ _ _ _ _ _ _ _ _ _ _ _ _ _ _ _ _ _ _ _ _ _ _ _ _ _ _ _ _ _ _ _ H1.out
end Go.Proofs.Ytkomelckmhnpeaa.Oct
