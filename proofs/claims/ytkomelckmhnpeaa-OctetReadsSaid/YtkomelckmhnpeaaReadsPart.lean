/- OctetReads: a round that reads a part. -/
import Derived.Test.YtkomelckmhnpeaaReadsKit
namespace Go.Proofs.Ytkomelckmhnpeaa.Oct
open Go.RowKit Mem Ahead Kit

theorem got_bad (l : List Nat) (k : Int) : got l true k = [] := by simp [got, fails]
theorem part_whole {l g : List Nat} {bd : Bool} {k : Int} (hg : g = got l bd k) : got g (fails l bd k) (g.length : Int) = g := by
  cases h : fails l bd k with
  | true => rw [hg, (fails_of h).1, got_bad]
  | false =>
    have := got_app (A := g) (B := []) (k := g.length) rfl
    rwa [List.append_nil] at this
set_option maxRecDepth 1000000 in
set_option maxHeartbeats 8000000 in
theorem sw_part (u0 u1 u2 u3 u4 u5 u6 u9 u10 u15 u16 u17 u18 u19 u20 u21 u22 u23 u24 u25 u26 u27 u28 u29 u30 u31 u32 u33 u34 u35 u36 u37 u38 u39 u40 u41 u42 u43 u44 u45 u46 u47 u48 u49 u50 u51 u52 u53 u54 u55 u56 u57 u58 u59 u60 u61 u62 u63 u64 u65 u66 u67 u68 u69 u70 u71 u72 u73 u74 u75 u76 u77 u79 u80 u81 u82 u83 u84 u85 u86 u87 u88 u89 u90 u91 u92 u93 u94 u95 u96 u97 u98 u99 u100 u101 u102 u103 u104 u105 u106 u107 u108 u109 u110 u111 u112 u113 u114 u115 u116 u117 u118 u119 u120 u121 u122 u123 u124 u125 u126 u127 u128 u129 u130 u131 u132 u133 u134 u135 u136 u137 u138 u139 u140 u141 u142 u143 u144 u145 u146 u147 u148 u149 u150 u151 u152 u153 u154 u155 u156 P vl : Value) (Aw : Option Addr) (cw n m : Nat) (k : Int) (l : List Nat) (bd fb : Bool) (F : Nat → Prop) (w wr : World) (K : Go.Act → World → Prop) (Q : Exit → Go.Act → World → Prop)
    (hS : Sw w n P F l bd k vl (.slice Aw m cw) wr) (hk : (Lit.int .i64 k).wf = true) (hfb : fb = fails l bd k) (hm : m = (got l bd k).length)
    (hK : ∀ (x16 x79 x80 x81 x82 x83 x84 x85 x86 x87 x88 x89 x90 x91 x92 x93 x94 x95 x96 x97 x98 x99 x100 x101 x102 x103 x104 x105 x106 x107 x108 x109 x110 x111 x112 x113 x114 x115 x116 x117 x118 x119 x120 x121 x122 x123 x124 x125 x126 x127 x128 x129 x130 x131 x132 x133 x134 x135 x136 x137 x138 x139 x140 : Value) (W : World), Rd w n P F (rest l bd k) (fails l bd k) vl W → K ⟨#[u0, u1, u2, u3, u4, u5, u6, P, vl, u9, u10, .int .i64 k, .int .u8 4, .bool fb, .slice Aw m cw, .bool true, x16, u17, u18, u19, u20, u21, u22, u23, u24, u25, u26, u27, u28, u29, u30, u31, u32, u33, u34, u35, u36, u37, u38, u39, u40, u41, u42, u43, u44, u45, u46, u47, u48, u49, u50, u51, u52, u53, u54, u55, u56, u57, u58, u59, u60, u61, u62, u63, u64, u65, u66, u67, u68, u69, u70, u71, u72, u73, u74, u75, u76, u77, .int .u8 4, x79, x80, x81, x82, x83, x84, x85, x86, x87, x88, x89, x90, x91, x92, x93, x94, x95, x96, x97, x98, x99, x100, x101, x102, x103, x104, x105, x106, x107, x108, x109, x110, x111, x112, x113, x114, x115, x116, x117, x118, x119, x120, x121, x122, x123, x124, x125, x126, x127, x128, x129, x130, x131, x132, x133, x134, x135, x136, x137, x138, x139, x140, u141, u142, u143, u144, u145, u146, u147, u148, u149, u150, u151, u152, u153, u154, u155, u156], []⟩ W) :
    Code.wp Try.prog rdSw (Exit.then K Q) ⟨#[u0, u1, u2, u3, u4, u5, u6, P, vl, u9, u10, .int .i64 k, .int .u8 4, .bool fb, .slice Aw m cw, u15, u16, u17, u18, u19, u20, u21, u22, u23, u24, u25, u26, u27, u28, u29, u30, u31, u32, u33, u34, u35, u36, u37, u38, u39, u40, u41, u42, u43, u44, u45, u46, u47, u48, u49, u50, u51, u52, u53, u54, u55, u56, u57, u58, u59, u60, u61, u62, u63, u64, u65, u66, u67, u68, u69, u70, u71, u72, u73, u74, u75, u76, u77, .int .u8 4, u79, u80, u81, u82, u83, u84, u85, u86, u87, u88, u89, u90, u91, u92, u93, u94, u95, u96, u97, u98, u99, u100, u101, u102, u103, u104, u105, u106, u107, u108, u109, u110, u111, u112, u113, u114, u115, u116, u117, u118, u119, u120, u121, u122, u123, u124, u125, u126, u127, u128, u129, u130, u131, u132, u133, u134, u135, u136, u137, u138, u139, u140, u141, u142, u143, u144, u145, u146, u147, u148, u149, u150, u151, u152, u153, u154, u155, u156], []⟩ wr := by
  subst hfb hm
  have HK := Go.Lib.hid hK
  have HS := Go.Lib.hid hS
  have CP := Go.Lib.hid (part_any P w.heap.size n l bd F k hk wr hS.nle hS.rd)
  have hgl : (got l bd k).length ≤ 1000000 := Nat.le_trans got_len2 (Nat.le_trans hS.big (by decide))
  clear hK hk
  obtain ⟨g, hg⟩ : ∃ g, g = got l bd k := ⟨_, rfl⟩
  have CP2 : Calls Try.prog 14 #[P, .int .i64 k] wr (fun e w' => ∃ b, e = .returned (.pointer (some ⟨b, 0, none⟩)) ∧ wr.heap.size ≤ b ∧ R w' wr.heap.size w'.heap.size (.pointer (some ⟨b, 0, none⟩)) g (fails l bd k) (fun k => k = b) ∧ Rd w n P F (rest l bd k) (fails l bd k) vl w' ∧ Aside w' F (.slice Aw g.length cw) g) := by
    rw [hg]
    exact CP.out.mono fun e w' ⟨b, h1, h2, h3, h4, h5⟩ => ⟨b, h1, h2, h3, HS.out.done h4 h5, HS.out.want.only h5⟩
  have CQ := Go.Lib.hid CP2
  rw [← hg] at hgl ⊢
  have CB := Go.Lib.hid (fun (v : Value) (base m : Nat) (G : Nat → Prop) (W : World) (h : R W base m v g (fails l bd k) G) => bad_any v base m g (fails l bd k) G W h)
  have CL := Go.Lib.hid (fun (v : Value) (base m : Nat) (G : Nat → Prop) (W : World) (h : R W base m v g (fails l bd k) G) => left_any v base m g (fails l bd k) G W h)
  have CR := Go.Lib.hid (fun (v : Value) (base m : Nat) (G : Nat → Prop) (W : World) (h : R W base m v g (fails l bd k) G) => (rest_any v base m g (fails l bd k) G W hgl h).mono fun e w' (hh : TakeF _ _ _ _ _ _ _ _ _ _) => show ∃ A c, e = .returned (.slice A g.length c) ∧ U8s w' (.slice A g.length c) g ∧ Only G W w' from by
    obtain ⟨A, c, h1, h2, _, h4⟩ := hh
    have e1 : got g (fails l bd k) (g.length : Int) = g := part_whole hg
    rw [e1] at h1 h2
    exact ⟨A, c, h1, h2, h4⟩)
  have HN := Go.Lib.hid (And.intro hS.nle hS.below.size)
  have HVL := Go.Lib.hid (fun g e => (hS.left.2 g e).1)
  have HVW := Go.Lib.hid (fun g (e : (Value.slice Aw (got l bd k).length cw).ownBlock = some g) => (hS.want.2 g e).1)
  have HG := Go.Lib.hid hg
  have hfb : (fails l bd k == fails l bd k) = true := by simp
  clear CP CP2 hS hg
  generalize fails l bd k = fb at *
  refine wp_dead ?_
  conv => arg 2; whnf
  go_wp2_with (go_at_call 14; refine (CQ.out).mono ?_; rintro e w1 ⟨b, rfl, hb, hp, hr, hw⟩; have P1 := Go.Lib.hid hp; have R1 := Go.Lib.hid hr; have A1 := Go.Lib.hid hw; have N1 := Go.Lib.hid hb; clear hb hp hr hw)
  have D := Go.Lib.hid (show Below w1.heap.size w1 w1.drew from (Below.refl _ w1).drew)
  have P2 := Go.Lib.hid (P1.out.below D.out)
  have R2 := Go.Lib.hid (R1.out.keep D.out)
  have A2 := Go.Lib.hid (A1.out.below D.out)
  have t2 := text8 A2.out.1
  clear P1 R1 A1 D
  go_region_with (first
    | (go_at_call 15; have h := P2.out; refine (CB.out _ _ _ _ _ h).mono ?_; rintro e w3 ⟨rfl, hb⟩; have P3 := Go.Lib.hid (P2.out.below hb); have R3 := Go.Lib.hid (R2.out.keep hb); have A3 := Go.Lib.hid (A2.out.below hb); have t3 := text8 A3.out.1; clear hb h P2 R2 A2)
    | (go_at_call 16; have h := P3.out; refine (CL.out _ _ _ _ _ h).mono ?_; rintro e w4 ⟨rfl, hb⟩; have P4 := Go.Lib.hid (P3.out.below hb); have R4 := Go.Lib.hid (R3.out.keep hb); have A4 := Go.Lib.hid (A3.out.below hb); have t4 := text8 A4.out.1; clear hb h P3 R3 A3)
    | (go_at_call 17; have h := P4.out; refine (CR.out _ _ _ _ _ h).mono ?_; rintro e w5 ⟨A5, c5, rfl, hu, ho⟩; have R5 := Go.Lib.hid (R4.out.far (m := wr.heap.size) ho (fun j hj => by subst hj; exact N1.out) HN.out.1 HN.out.2 HVL.out); have A5' := Go.Lib.hid (A4.out.far (m := wr.heap.size) ho (fun j hj => by subst hj; exact N1.out) (fun g e => HVW.out g (own_at e))); have t5 := text8 A5'.out.1; have t6 := text8 hu; clear hu ho h))
  all_goals obtain rfl := HG.out
  all_goals exact HK.out _ _ _ _ _ _ _ _ _ _ _ _ _ _ _ _ _ _ _ _ _ _ _ _ _ _ _ _ _ _ _ _ _ _ _ _ _ _ _ _ _ _ _ _ _ _ _ _ _ _ _ _ _ _ _ _ _ _ _ _ _ _ _ _ R5.out
end Go.Proofs.Ytkomelckmhnpeaa.Oct
