/- Part of the proof. -/
import Derived.Test.YtjfmompgkkdliaaGreatDoorH04
import Derived.Deep.DeepCutAuto
import Derived.Deep.RegionWith
open Go.Lib (hid)
set_option maxRecDepth 100000
set_option maxHeartbeats 40000000
namespace Go.Proofs.YtjfmompgkkdliaaGreatDoor
namespace Opn
open Go.RowKit Mem Oct Att
theorem decode_r10 (v:Value) (b:List Nat) (w:World) (hv:U8s w v b) (hl:10≤b.length) (hl4:b.length≤1600):Calls Tryz.prog 50 #[v] w (DecF9 b w):=by
 have D0:=hid (rd0_start w)
 have CN:=hid rno_any
 obtain ⟨A,cb,rfl,hlc,hcc⟩:=hv.form
 obtain ⟨blk,off,x0,rfl,hbl,hx0,hx0s,hc0⟩:=hv.at_ (k:=0) (by omega)
 have HU:=hid hv
 have HB0:=hid hx0
 obtain ⟨blk',off',x9,e9,hbl',hx9,hx9s,hc9⟩:=hv.at_ (k:=9) (by omega)
 injection e9 with e9
 injection e9 with e9 e9'
 subst e9 e9'
 have HB9:=hid hx9
 have HKC:=hid (fun (W:World) (h:Below w.heap.size w W)=>And.intro (keepsT h hc0) (keepsT h hc9))
 obtain ⟨N1,hN1⟩:∃ N1,N1=val ((b.drop 1).take 2):=⟨_,rfl⟩
 obtain ⟨N2,hN2⟩:∃ N2,N2=val ((b.drop 3).take 2):=⟨_,rfl⟩
 obtain ⟨N3,hN3⟩:∃ N3,N3=val ((b.drop 5).take 4):=⟨_,rfl⟩
 have HH:=hid (show headO b=⟨N1,(N2:Nat),N3,false⟩ from by rw [hN1,hN2,hN3];rfl)
 have h2s:N2<65536:=by rw [hN2];exact val_lt 2 (hv.2.drop 3)
 have wN2:IntKind.i64.wrap (N2:Int)=(N2:Int):=IntWalk.i64_in _ (by omega)
 have RO:=hid (rdo_start w ⟨N1,(N2:Nat),N3,false⟩)
 have C1:=hid (fun (W:World) (h:Below w.heap.size w W)=>show Calls Tryz.prog 95 #[.slice (some ⟨blk,off+1,none⟩) 2 (cb - 1)] W (fun e w'=>e=.returned (.int .u32 N1)∧w'=W) from by rw [hN1];exact numE _ _ W ((mid_any hv (i:=1) (m:=2) (by omega)).keep h) (Nat.le_trans (List.length_take_le _ _) (by decide)))
 have C2:=hid (fun (W:World) (h:Below w.heap.size w W)=>show Calls Tryz.prog 95 #[.slice (some ⟨blk,off+3,none⟩) 2 (cb - 3)] W (fun e w'=>e=.returned (.int .u32 N2)∧w'=W) from by rw [hN2];exact numE _ _ W ((mid_any hv (i:=3) (m:=2) (by omega)).keep h) (Nat.le_trans (List.length_take_le _ _) (by decide)))
 have C3:=hid (fun (W:World) (h:Below w.heap.size w W)=>show Calls Tryz.prog 95 #[.slice (some ⟨blk,off+5,none⟩) 4 (cb - 5)] W (fun e w'=>e=.returned (.int .u32 N3)∧w'=W) from by rw [hN3];exact numE _ _ W ((mid_any hv (i:=5) (m:=4) (by omega)).keep h) (Nat.le_trans (List.length_take_le _ _) (by decide)))
 have z1:decide ((b.length:Int)<10)=false:=decide_eq_false (by omega)
 have z2:(9:Int)≤(cb:Int):=by omega
 have z3:¬ cb=1:=by omega
 have z4:¬ cb=3:=by omega
 have z5:¬ cb=5:=by omega
 have z6:(3:Int)≤(cb:Int):=by omega
 have z7:(5:Int)≤(cb:Int):=by omega
 clear hv hx0 hx9 hN1 hN2 hN3 hc0 hc9
 go_enter Tryz.func50,Tryz.ntmps50
 go_upto_region 3 with fail
 go_cut [4] (fun s4 wx=>s4=.pointer (some ⟨w.heap.size+1+1,0,none⟩)∧Hid (RdO w ⟨N1,(N2:Nat),N3,false⟩ wx))
 case first =>
  have B0:=hid (D0.out.low.trans ((Below.refl _ _).drew.mono D0.out.low.size))
  have B1:=hid (B0.out.alloc B0.out.size (.cells #[.int .u32 0,.int .i64 0,.int .u32 0,.bool false] 24))
  have B2:=hid ((D0.out.low.alloc D0.out.low.size (.cells #[.int .u32 0,.int .i64 0,.int .u32 0,.bool false] 24)).drew)
  go_region_with (go_at_call 95;first
   | ((with_reducible refine (C1.out _ ?_).mono ?_);(first | exact B0.out | exact B1.out | exact B2.out);rintro e x ⟨rfl,rfl⟩)
   | ((with_reducible refine (C2.out _ ?_).mono ?_);(first | exact B0.out | exact B1.out | exact B2.out);rintro e x ⟨rfl,rfl⟩)
   | ((with_reducible refine (C3.out _ ?_).mono ?_);(first | exact B0.out | exact B1.out | exact B2.out);rintro e x ⟨rfl,rfl⟩))
  all_goals (go_wp2_with fail)
  all_goals go_meet
  all_goals exact ⟨rfl,RO⟩
 case rest =>
 obtain ⟨rfl,ST⟩:=hcut
 clear C1 C2 C3 RO D0 z2 z3 z4 z5 z6 z7 wN2
 have CH:=hid (fun W=>rholds_any (N2:Int) W)
 obtain ⟨k0,k9⟩:=HKC.out _ ST.out.rd.low
 replace k0:wc.cell? ⟨blk,off,none⟩=some (.int .u8 x0):=k0
 obtain ⟨c0,c1,c2,c3⟩:=ST.out.bo.cells
 have HDC:=hid (decO_is b)
 by_cases g0:x0=4
 case neg =>
  have y0:((x0:Int) != 4)=true:=by simp;omega
  have HD:=hid (show decO b=.inl 1 from by rw [HDC.out,if_neg (by omega),if_pos (by rw [HB0.out];simp;omega)])
  have SZ:=hid (ST.out.rd.below ((Below.refl _ wc).alloc (Nat.le_refl _) (.cells #[.int .u8 0,.int .u8 4] 5)))
  obtain ⟨f0,f1,f2,f3⟩:=SZ.out.r4.cells
  have fr4:=SZ.out.r4.free
  obtain ⟨m0,m1,m2⟩:=(SZ.out.mid (.int .u32 0) (.int .i64 0) (.int .u32 0) (.bool false)).cells
  have fr3:=(SZ.out.mid (.int .u32 0) (.int .i64 0) (.int .u32 0) (.bool false)).free
  unfold four at m0 m1 m2 fr3
  clear g0
  go_wp2
  clear f0 f1 f2 f3 fr4 m0 m1 m2 fr3
  (try simp only [Exit.inBlock,Exit.then])
  obtain ⟨k1,k2,kb⟩:=SZ.out.fin (.int .u32 0) (.int .i64 0) (.int .u32 0) (.bool false) (.int .i64 2) (.int .i64 1) (.slice (some ⟨wc.heap.size,0,none⟩) 2 2)
  obtain ⟨r0,r1,r2,r3⟩:=k1.cells
  obtain ⟨t0,t1,t2⟩:=k2.cells
  clear k1 k2
  unfold ends three four at r0 r1 r2 r3 t0 t1 t2
  refine bodyPost_ret (v:=.tuple #[.agg #[.int .u32 0,.int .i64 0,.int .u32 0,.bool false],.agg #[.int .i64 2,.int .i64 1,.slice (some ⟨wc.heap.size,0,none⟩) 2 2]]) (by simp [results,Tryz.results50,go_sem,r0,r1,r2,r3,t0,t1,t2]) rfl ?_
  unfold DecF9
  rw [HD.out]
  refine ⟨_,rfl,⟨show (Lit.int .i64 2).wf=true by decide,show (Lit.int .i64 ((1:Nat):Int)).wf=true by decide,_,rfl,?_⟩,kb⟩
  have hU:U8s (wc.alloc (.cells #[.int .u8 0,.int .u8 4] 5)) (.slice (some ⟨wc.heap.size,0,none⟩) 2 2) [0,4]:=lit8 _ _ _ _ (by unfold Small;decide) rfl rfl (by decide)
  have h4:=SZ.out.r4.lt
  have ho1:=four_off (wc.alloc (.cells #[.int .u8 0,.int .u8 4] 5)) w.heap.size (.int .u32 0) (.int .i64 0) (.int .u32 0) (.bool false)
  have ho2:=three_off (four (wc.alloc (.cells #[.int .u8 0,.int .u8 4] 5)) w.heap.size (.int .u32 0) (.int .i64 0) (.int .u32 0) (.bool false)) (w.heap.size+1) (.int .i64 2) (.int .i64 1) (.slice (some ⟨wc.heap.size,0,none⟩) 2 2)
  exact u8_apart (u8_apart hU (SZ.out.r4.no8 (no8_u _) (no8_i _) (no8_u _) (no8_b _)) ho1.1 ho1.2) ((SZ.out.mid (.int .u32 0) (.int .i64 0) (.int .u32 0) (.bool false)).no8 (no8_i _) (no8_i _) (no8_s _ _ _)) ho2.1 ho2.2
 subst g0
 rw [if_neg (by omega),if_neg (by rw [HB0.out];simp),HH.out] at HDC
 by_cases g1:N1=0
 ·have y1:((N1:Int) == 0)=true:=by simp [g1]
  have HD:=hid (show decO b=.inl 2 from by rw [HDC.out,if_pos g1])
  clear g1
  go_wp2_with (go_at_call 94;(refine (CN.out _ _).mono ?_;rintro e z ⟨rfl,hb⟩;have SZ:=hid (ST.out.rd.below hb);clear hb;obtain ⟨f0,f1,f2,f3⟩:=SZ.out.r4.cells;have fr4:=SZ.out.r4.free;obtain ⟨m0,m1,m2⟩:=(SZ.out.mid (.int .u32 0) (.int .i64 0) (.int .u32 0) (.bool false)).cells;have fr3:=(SZ.out.mid (.int .u32 0) (.int .i64 0) (.int .u32 0) (.bool false)).free;unfold four at m0 m1 m2 fr3))
  clear f0 f1 f2 f3 fr4 m0 m1 m2 fr3
  (try simp only [Exit.inBlock,Exit.then])
  obtain ⟨k1,k2,-⟩:=SZ.out.fin (.int .u32 0) (.int .i64 0) (.int .u32 0) (.bool false) (.int .i64 2) (.int .i64 2) (.slice none 0 0)
  obtain ⟨r0,r1,r2,r3⟩:=k1.cells
  obtain ⟨t0,t1,t2⟩:=k2.cells
  clear k1 k2
  unfold ends three four at r0 r1 r2 r3 t0 t1 t2
  refine bodyPost_ret (v:=.tuple #[.agg #[.int .u32 0,.int .i64 0,.int .u32 0,.bool false],.agg #[.int .i64 2,.int .i64 2,.slice none 0 0]]) (by simp [results,Tryz.results50,go_sem,r0,r1,r2,r3,t0,t1,t2]) rfl ?_
  exact SZ.out.bad (s:=2) HD.out (by decide) rfl (by decide)
 have y1:((N1:Int) == 0)=false:=by simp;omega
 rw [if_neg g1] at HDC
 clear g1
 cases hh:holdsB (N2:Int) with
 | false =>
  rw [hh] at CH
  have HD:=hid (show decO b=.inl 6 from by rw [HDC.out,if_pos hh])
  clear hh
  go_wp2_with (go_at_call 69;refine (CH.out _).mono ?_;rintro e x ⟨rfl,hb⟩;replace ST:=hid (ST.out.below hb);clear hb)
  go_wp2_with (go_at_call 94;(refine (CN.out _ _).mono ?_;rintro e z ⟨rfl,hb⟩;have SZ:=hid (ST.out.rd.below hb);clear hb;obtain ⟨f0,f1,f2,f3⟩:=SZ.out.r4.cells;have fr4:=SZ.out.r4.free;obtain ⟨m0,m1,m2⟩:=(SZ.out.mid (.int .u32 0) (.int .i64 0) (.int .u32 0) (.bool false)).cells;have fr3:=(SZ.out.mid (.int .u32 0) (.int .i64 0) (.int .u32 0) (.bool false)).free;unfold four at m0 m1 m2 fr3))
  clear f0 f1 f2 f3 fr4 m0 m1 m2 fr3
  (try simp only [Exit.inBlock,Exit.then])
  obtain ⟨k1,k2,-⟩:=SZ.out.fin (.int .u32 0) (.int .i64 0) (.int .u32 0) (.bool false) (.int .i64 2) (.int .i64 6) (.slice none 0 0)
  obtain ⟨r0,r1,r2,r3⟩:=k1.cells
  obtain ⟨t0,t1,t2⟩:=k2.cells
  clear k1 k2
  unfold ends three four at r0 r1 r2 r3 t0 t1 t2
  refine bodyPost_ret (v:=.tuple #[.agg #[.int .u32 0,.int .i64 0,.int .u32 0,.bool false],.agg #[.int .i64 2,.int .i64 6,.slice none 0 0]]) (by simp [results,Tryz.results50,go_sem,r0,r1,r2,r3,t0,t1,t2]) rfl ?_
  exact SZ.out.bad (s:=6) HD.out (by decide) rfl (by decide)
 | true =>
 rw [hh] at CH
 rw [if_neg (by rw [hh];decide)] at HDC
 clear hh
 by_cases g3:N3=0
 ·have y3:((N3:Int) == 0)=true:=by simp [g3]
  have HD:=hid (show decO b=.inl 3 from by rw [HDC.out,if_pos g3])
  clear g3
  go_wp2_with (go_at_call 69;refine (CH.out _).mono ?_;rintro e x ⟨rfl,hb⟩;replace ST:=hid (ST.out.below hb);obtain ⟨d0,d1,d2,d3⟩:=ST.out.bo.cells;clear hb c0 c1 c2 c3)
  go_wp2_with (go_at_call 94;(refine (CN.out _ _).mono ?_;rintro e z ⟨rfl,hb⟩;have SZ:=hid (ST.out.rd.below hb);clear hb;obtain ⟨f0,f1,f2,f3⟩:=SZ.out.r4.cells;have fr4:=SZ.out.r4.free;obtain ⟨m0,m1,m2⟩:=(SZ.out.mid (.int .u32 0) (.int .i64 0) (.int .u32 0) (.bool false)).cells;have fr3:=(SZ.out.mid (.int .u32 0) (.int .i64 0) (.int .u32 0) (.bool false)).free;unfold four at m0 m1 m2 fr3))
  clear f0 f1 f2 f3 fr4 m0 m1 m2 fr3
  (try simp only [Exit.inBlock,Exit.then])
  obtain ⟨k1,k2,-⟩:=SZ.out.fin (.int .u32 0) (.int .i64 0) (.int .u32 0) (.bool false) (.int .i64 2) (.int .i64 3) (.slice none 0 0)
  obtain ⟨r0,r1,r2,r3⟩:=k1.cells
  obtain ⟨t0,t1,t2⟩:=k2.cells
  clear k1 k2
  unfold ends three four at r0 r1 r2 r3 t0 t1 t2
  refine bodyPost_ret (v:=.tuple #[.agg #[.int .u32 0,.int .i64 0,.int .u32 0,.bool false],.agg #[.int .i64 2,.int .i64 3,.slice none 0 0]]) (by simp [results,Tryz.results50,go_sem,r0,r1,r2,r3,t0,t1,t2]) rfl ?_
  exact SZ.out.bad (s:=3) HD.out (by decide) rfl (by decide)
 have y3:((N3:Int) == 0)=false:=by simp;omega
 rw [if_neg g3] at HDC
 clear g3
 by_cases g4:x9=b.length - 10
 case neg =>
  have y4:((x9:Int) != (b.length:Int) - 10)=true:=by simp;omega
  have HD:=hid (show decO b=.inl 0 from by rw [HDC.out,if_pos (by rw [HB9.out];simp;omega)])
  clear g4
  go_wp2_with (go_at_call 69;refine (CH.out _).mono ?_;rintro e x ⟨rfl,hb⟩;replace ST:=hid (ST.out.below hb);obtain ⟨d0,d1,d2,d3⟩:=ST.out.bo.cells;obtain ⟨k0',k9'⟩:=HKC.out _ ST.out.rd.low;clear hb c0 c1 c2 c3 k0 k9)
  go_wp2_with (go_at_call 94;(refine (CN.out _ _).mono ?_;rintro e z ⟨rfl,hb⟩;have SZ:=hid (ST.out.rd.below hb);clear hb;obtain ⟨f0,f1,f2,f3⟩:=SZ.out.r4.cells;have fr4:=SZ.out.r4.free;obtain ⟨m0,m1,m2⟩:=(SZ.out.mid (.int .u32 0) (.int .i64 0) (.int .u32 0) (.bool false)).cells;have fr3:=(SZ.out.mid (.int .u32 0) (.int .i64 0) (.int .u32 0) (.bool false)).free;unfold four at m0 m1 m2 fr3))
  clear f0 f1 f2 f3 fr4 m0 m1 m2 fr3
  (try simp only [Exit.inBlock,Exit.then])
  obtain ⟨k1,k2,-⟩:=SZ.out.fin (.int .u32 0) (.int .i64 0) (.int .u32 0) (.bool false) (.int .i64 2) (.int .i64 0) (.slice none 0 0)
  obtain ⟨r0,r1,r2,r3⟩:=k1.cells
  obtain ⟨t0,t1,t2⟩:=k2.cells
  clear k1 k2
  unfold ends three four at r0 r1 r2 r3 t0 t1 t2
  refine bodyPost_ret (v:=.tuple #[.agg #[.int .u32 0,.int .i64 0,.int .u32 0,.bool false],.agg #[.int .i64 2,.int .i64 0,.slice none 0 0]]) (by simp [results,Tryz.results50,go_sem,r0,r1,r2,r3,t0,t1,t2]) rfl ?_
  exact SZ.out.bad (s:=0) HD.out (by decide) rfl (by decide)
 have y4:((x9:Int) != (b.length:Int) - 10)=false:=by simp;omega
 rw [if_neg (by rw [HB9.out,g4];simp)] at HDC
 clear g4
 go_wp2_with (go_at_call 69;refine (CH.out _).mono ?_;rintro e x ⟨rfl,hb⟩;replace ST:=hid (ST.out.below hb);obtain ⟨d0,d1,d2,d3⟩:=ST.out.bo.cells;obtain ⟨k0',k9'⟩:=HKC.out _ ST.out.rd.low;clear hb c0 c1 c2 c3 k0 k9)
 clear CH HB0 HB9 HKC k0' k9' d0 d1 d2 d3 y1 y3 y4 HH hx9s hx0s
 go_loopw [5] (fun v5 wx=>∃ (j:Nat) (o:Op),v5=.int .i64 j∧Hid (10≤j∧j≤b.length∧decO b=pars o (b.drop j))∧Hid (RdO w o wx)) (fun v5 _=>b.length - (intOf v5).toNat)
 case atStart=>exact ⟨10,_,rfl,hid ⟨Nat.le_refl _,hl,HDC.out⟩,ST⟩
 case round =>
  clear ST HDC
  obtain ⟨j,o,rfl,HI,ST⟩:=hrel
  have hj:=HI.out.2.1
  have hj10:=HI.out.1
  obtain ⟨c0,c1,c2,c3⟩:=ST.out.bo.cells
  by_cases hlt:j<b.length
  ·have z2:(j:Int)<(b.length:Int):=by omega
   by_cases h2:j+2≤b.length
   ·obtain ⟨blk',off',t,m,e,-,ht,ht8,ct,hm,hm8,cm⟩:=two_at HU.out (k:=j) (by omega)
    injection e with e
    injection e with e e'
    subst e e'
    have HKB:=hid (fun (W:World) (h:Below w.heap.size w W)=>And.intro (keepsT h ct) (keepsT h cm))
    have HPS:=hid (show decO b=if m≤(b.drop (j+2)).length then (if t=2 then thenO (caps o ((b.drop (j+2)).take m)) (fun o2=>pars o2 ((b.drop (j+2)).drop m)) else .inl 4) else .inl 0 from by rw [HI.out.2.2,drop_two ht hm,pars_two])
    clear ct cm ht hm
    obtain ⟨k0,k1⟩:=HKB.out _ ST.out.rd.low
    have z3:decide ((b.length:Int)<(j:Int)+2)=false:=decide_eq_false (by omega)
    have z4:(0:Int)≤(j:Int):=by omega
    have z5:(j:Int)+1<(b.length:Int):=by omega
    have hlen:(b.drop (j+2)).length=b.length - (j+2):=List.length_drop
    by_cases g1:j+2+m≤b.length
    ·rw [if_pos (by rw [hlen];omega)] at HPS
     have z6:decide ((b.length:Int)<(j:Int)+2+(m:Int))=false:=decide_eq_false (by omega)
     by_cases g2:t=2
     ·subst g2
      rw [if_pos rfl] at HPS
      obtain ⟨P,hP⟩:∃ P,P=(b.drop (j+2)).take m:=⟨_,rfl⟩
      obtain ⟨j2,hj2⟩:∃ j2,j2=j+2:=⟨_,rfl⟩
      obtain ⟨j3,hj3⟩:∃ j3,j3=j+2+m:=⟨_,rfl⟩
      have HPL:=hid (show P.length=m from by rw [hP,List.length_take,hlen];omega)
      have HD3:=hid (show (b.drop (j+2)).drop m=b.drop j3 from by rw [List.drop_drop,hj3])
      obtain ⟨Ap,hAp⟩:∃ Ap,Ap=(if cb=j2 then some (⟨blk,off,none⟩:Addr) else some ⟨blk,off+j2,none⟩):=⟨_,rfl⟩
      have UP:=hid (show U8s w (.slice Ap m (cb - j2)) P from by
       have h3:=HU.out.cut (k:=j2) (by omega)
       have h4:=h3.prefix_ (k:=m) (d:=cb - j2) (by rw [List.length_drop];omega) (by omega) (by unfold maxLen;omega)
       rw [hP,← hj2,hAp]
       by_cases hc:cb=j2
       ·simpa [hc] using h4
       ·have:j2≠0:=by omega
        simpa [hc,Addr.add,this] using h4)
      rw [HD3.out,← hP] at HPS
      clear hP hlen
      go_upto_region 20 with fail
      go_cut [6] (fun s6 wx=>s6=.slice Ap m (cb - j2)∧wx=wr)
      case first =>
       by_cases hc:cb=j+2
       ·subst hc
        go_wp2
        go_meet
        exact ⟨by rw [hAp,hj2,if_pos rfl,Nat.sub_self],rfl⟩
       ·go_wp2
        go_meet
        exact ⟨by rw [hAp,hj2,if_neg hc],rfl⟩
      case rest =>
      obtain ⟨rfl,rfl⟩:=hcut
      have HJ:=hid (And.intro hj2 hj3)
      have z7:(j:Int)+2+(m:Int)=(j3:Int):=by omega
      have hj3b:j3≤1600:=by omega
      obtain ⟨cp,hcp⟩:∃ cp,cp=cb - j2:=⟨_,rfl⟩
      rw [← hcp] at UP ⊢
      have hcpm:m≤cp∧cp≤9223372036854775807:=by omega
      have hm8b:m≤255:=by omega
      have H0:=hid (show decO b=thenO (caps o (P.drop 0)) (fun o3=>pars o3 (b.drop j3)) from HPS.out)
      clear hAp hj2 hj3 z6 k0 k1 hcp HKB HPS HD3
      go_wp2
      go_loopw [7] (fun v7 wx=>∃ (i:Nat) (o2:Op),v7=.int .i64 i∧Hid (i≤m∧decO b=thenO (caps o2 (P.drop i)) (fun o3=>pars o3 (b.drop j3)))∧Hid (RdO w o2 wx)) (fun v7 _=>m - (intOf v7).toNat)
      case atStart=>exact ⟨0,o,rfl,hid ⟨Nat.zero_le _,H0.out⟩,ST⟩
      case round =>
       clear ST H0 HI c0 c1 c2 c3
       obtain ⟨i,o2,rfl,HI2,ST⟩:=hrel
       have hi:=HI2.out.1
       obtain ⟨c0,c1,c2,c3⟩:=ST.out.bo.cells
       by_cases ilt:i<m
       ·have x2:(i:Int)<(m:Int):=by omega
        by_cases i2:i+2≤m
        ·obtain ⟨pb,poff,t,n,eAp,hpb,ht,ht8,ct,hn,hn8,cn⟩:=two_at UP.out (k:=i) (by rw [HPL.out];omega)
         subst eAp
         have HKB:=hid (fun (W:World) (h:Below w.heap.size w W)=>And.intro (keepsT h ct) (keepsT h cn))
         have HPS:=hid (show caps o2 (P.drop i)=if n≤(P.drop (i+2)).length then (if t=65 then (if n=4∧val ((P.drop (i+2)).take n)≠0 then caps ⟨val ((P.drop (i+2)).take n),o2.hold,o2.ri,true⟩ ((P.drop (i+2)).drop n) else none) else caps o2 ((P.drop (i+2)).drop n)) else none from by rw [drop_two ht hn,caps_step])
         clear ct cn ht hn
         obtain ⟨k0,k1⟩:=HKB.out _ ST.out.rd.low
         have x3:decide ((m:Int)<(i:Int)+2)=false:=decide_eq_false (by omega)
         have x4:(0:Int)≤(i:Int):=by omega
         have x5:(i:Int)+1<(m:Int):=by omega
         have hlen:(P.drop (i+2)).length=m - (i+2):=by rw [List.length_drop,HPL.out]
         by_cases q1:i+2+n≤m
         ·rw [if_pos (by rw [hlen];omega)] at HPS
          have x6:decide ((m:Int)<(i:Int)+2+(n:Int))=false:=decide_eq_false (by omega)
          obtain ⟨D,hD⟩:∃ D,D=(P.drop (i+2)).take n:=⟨_,rfl⟩
          obtain ⟨i3,hi3⟩:∃ i3,i3=i+2+n:=⟨_,rfl⟩
          have HD3:=hid (show (P.drop (i+2)).drop n=P.drop i3 from by rw [List.drop_drop,hi3])
          have HDL:=hid (show D.length=n from by rw [hD,List.length_take,hlen];omega)
          obtain ⟨Ac,hAc⟩:∃ Ac,Ac=(if cp=i+2 then some (⟨pb,poff,none⟩:Addr) else some ⟨pb,poff+(i+2),none⟩):=⟨_,rfl⟩
          have UD:=hid (show U8s w (.slice Ac n (cp - (i+2))) D from by
           have hU:=UP.out
           rw [← HPL.out] at hU
           have h3:=hU.cut (k:=i+2) (by rw [HPL.out];omega)
           have h4:=h3.prefix_ (k:=n) (d:=cp - (i+2)) (by rw [List.length_drop,HPL.out];omega) (by omega) (by unfold maxLen;omega)
           rw [hD,hAc]
           by_cases hc:cp=i+2
           ·simpa [hc] using h4
           ·simpa [hc,Addr.add] using h4)
          rw [HD3.out,← hD] at HPS
          clear hD hlen
          go_upto_region 26 with fail
          go_cut [8] (fun s8 wx=>s8=.slice Ac n (cp - (i+2))∧wx=wr)
          case first =>
           by_cases hc:cp=i+2
           ·subst hc
            go_wp2
            go_meet
            exact ⟨by rw [hAc];simp,rfl⟩
           ·go_wp2
            go_meet
            exact ⟨by rw [hAc,if_neg hc,show i+2+n - (i+2)=n from by omega],rfl⟩
          case rest =>
          obtain ⟨rfl,rfl⟩:=hcut
          have x7:(i:Int)+2+(n:Int)=(i3:Int):=by omega
          have hi3b:i3≤m:=by omega
          have hi3c:i<i3:=by omega
          generalize cp - (i+2)=cd at UD ⊢
          clear hAc hi3 x6
          by_cases q2:t=65
          ·subst q2
           rw [if_pos rfl] at HPS
           obtain ⟨V,hV⟩:∃ V,V=val D:=⟨_,rfl⟩
           rw [← hV] at HPS
           by_cases q3:n=4
           ·have y3:((n:Int) != 4)=false:=by simp;omega
            have CM:=hid (show Calls Tryz.prog 95 #[.slice Ac n cd] wc (fun e w'=>e=.returned (.int .u32 V)∧w'=wc) from by rw [hV];exact numE _ _ wc (UD.out.keep ST.out.rd.low) (by rw [HDL.out];omega))
            clear hV
            by_cases q4:V=0
            ·have y4:((V:Int) == 0)=true:=by simp [q4]
             have HD:=hid (show decO b=.inl 0 from by rw [HI2.out.2,HPS.out,if_neg (by omega)];rfl)
             clear q4 q3
             go_wp2_with (first | (go_at_call 95;(refine (CM.out).mono ?_);rintro e z ⟨rfl,rfl⟩) | (go_at_call 94;(refine (CN.out _ _).mono ?_;rintro e z ⟨rfl,hb⟩;have SZ:=hid (ST.out.rd.below hb);clear hb;obtain ⟨f0,f1,f2,f3⟩:=SZ.out.r4.cells;have fr4:=SZ.out.r4.free;obtain ⟨m0,m1,m2⟩:=(SZ.out.mid (.int .u32 0) (.int .i64 0) (.int .u32 0) (.bool false)).cells;have fr3:=(SZ.out.mid (.int .u32 0) (.int .i64 0) (.int .u32 0) (.bool false)).free;unfold four at m0 m1 m2 fr3)))
             clear f0 f1 f2 f3 fr4 m0 m1 m2 fr3
             (try simp only [Exit.inBlock,Exit.then])
             obtain ⟨k1,k2,-⟩:=SZ.out.fin (.int .u32 0) (.int .i64 0) (.int .u32 0) (.bool false) (.int .i64 2) (.int .i64 0) (.slice none 0 0)
             obtain ⟨r0,r1,r2,r3⟩:=k1.cells
             obtain ⟨t0,t1,t2⟩:=k2.cells
             clear k1 k2
             unfold ends three four at r0 r1 r2 r3 t0 t1 t2
             refine bodyPost_ret (v:=.tuple #[.agg #[.int .u32 0,.int .i64 0,.int .u32 0,.bool false],.agg #[.int .i64 2,.int .i64 0,.slice none 0 0]]) (by simp [results,Tryz.results50,go_sem,r0,r1,r2,r3,t0,t1,t2]) rfl ?_
             exact SZ.out.bad (s:=0) HD.out (by decide) rfl (by decide)
            ·have y4:((V:Int) == 0)=false:=by simp;omega
             have HN:=hid (show decO b=thenO (caps ⟨V,o2.hold,o2.ri,true⟩ (P.drop i3)) (fun o3=>pars o3 (b.drop j3)) from by rw [HI2.out.2,HPS.out,if_pos ⟨q3,q4⟩])
             have S2:=hid (ST.out.set V)
             have fo:=ST.out.bo.free
             have bo2:=(ST.out.bo.set0 (.int .u32 V)).free
             obtain ⟨e0,e1,e2,e3⟩:=(ST.out.bo.set0 (.int .u32 V)).cells
             clear q4 q3
             go_wp2_with (go_at_call 95;(refine (CM.out).mono ?_);rintro e z ⟨rfl,rfl⟩)
             go_roundw
             case rel=>exact ⟨i3,_,by go_num,hid ⟨hi3b,HN.out⟩,S2⟩
             case measure=>simp [intOf];omega
           ·have y3:((n:Int) != 4)=true:=by simp;omega
            have HD:=hid (show decO b=.inl 0 from by rw [HI2.out.2,HPS.out,if_neg (by omega)];rfl)
            clear q3 hV
            go_wp2_with (go_at_call 94;(refine (CN.out _ _).mono ?_;rintro e z ⟨rfl,hb⟩;have SZ:=hid (ST.out.rd.below hb);clear hb;obtain ⟨f0,f1,f2,f3⟩:=SZ.out.r4.cells;have fr4:=SZ.out.r4.free;obtain ⟨m0,m1,m2⟩:=(SZ.out.mid (.int .u32 0) (.int .i64 0) (.int .u32 0) (.bool false)).cells;have fr3:=(SZ.out.mid (.int .u32 0) (.int .i64 0) (.int .u32 0) (.bool false)).free;unfold four at m0 m1 m2 fr3))
            clear f0 f1 f2 f3 fr4 m0 m1 m2 fr3
            (try simp only [Exit.inBlock,Exit.then])
            obtain ⟨k1,k2,-⟩:=SZ.out.fin (.int .u32 0) (.int .i64 0) (.int .u32 0) (.bool false) (.int .i64 2) (.int .i64 0) (.slice none 0 0)
            obtain ⟨r0,r1,r2,r3⟩:=k1.cells
            obtain ⟨t0,t1,t2⟩:=k2.cells
            clear k1 k2
            unfold ends three four at r0 r1 r2 r3 t0 t1 t2
            refine bodyPost_ret (v:=.tuple #[.agg #[.int .u32 0,.int .i64 0,.int .u32 0,.bool false],.agg #[.int .i64 2,.int .i64 0,.slice none 0 0]]) (by simp [results,Tryz.results50,go_sem,r0,r1,r2,r3,t0,t1,t2]) rfl ?_
            exact SZ.out.bad (s:=0) HD.out (by decide) rfl (by decide)
          ·have y2:((t:Int) == 65)=false:=by simp;omega
           rw [if_neg q2] at HPS
           have HN:=hid (show decO b=thenO (caps o2 (P.drop i3)) (fun o3=>pars o3 (b.drop j3)) from by rw [HI2.out.2,HPS.out])
           clear q2
           go_wp2
           go_roundw
           case rel=>exact ⟨i3,o2,by go_num,hid ⟨hi3b,HN.out⟩,ST⟩
           case measure=>simp [intOf];omega
         ·have x6:(m:Int)<(i:Int)+2+(n:Int):=by omega
          have HD:=hid (show decO b=.inl 0 from by rw [HI2.out.2,HPS.out,if_neg (by rw [hlen];omega)];rfl)
          clear hlen
          go_wp2_with (go_at_call 94;(refine (CN.out _ _).mono ?_;rintro e z ⟨rfl,hb⟩;have SZ:=hid (ST.out.rd.below hb);clear hb;obtain ⟨f0,f1,f2,f3⟩:=SZ.out.r4.cells;have fr4:=SZ.out.r4.free;obtain ⟨m0,m1,m2⟩:=(SZ.out.mid (.int .u32 0) (.int .i64 0) (.int .u32 0) (.bool false)).cells;have fr3:=(SZ.out.mid (.int .u32 0) (.int .i64 0) (.int .u32 0) (.bool false)).free;unfold four at m0 m1 m2 fr3))
          clear f0 f1 f2 f3 fr4 m0 m1 m2 fr3
          (try simp only [Exit.inBlock,Exit.then])
          obtain ⟨k1,k2,-⟩:=SZ.out.fin (.int .u32 0) (.int .i64 0) (.int .u32 0) (.bool false) (.int .i64 2) (.int .i64 0) (.slice none 0 0)
          obtain ⟨r0,r1,r2,r3⟩:=k1.cells
          obtain ⟨t0,t1,t2⟩:=k2.cells
          clear k1 k2
          unfold ends three four at r0 r1 r2 r3 t0 t1 t2
          refine bodyPost_ret (v:=.tuple #[.agg #[.int .u32 0,.int .i64 0,.int .u32 0,.bool false],.agg #[.int .i64 2,.int .i64 0,.slice none 0 0]]) (by simp [results,Tryz.results50,go_sem,r0,r1,r2,r3,t0,t1,t2]) rfl ?_
          exact SZ.out.bad (s:=0) HD.out (by decide) rfl (by decide)
        ·obtain ⟨y,hy⟩:=drop_one (b:=P) (j:=i) (by rw [HPL.out];exact ilt) (by rw [HPL.out];omega)
         have HD:=hid (show decO b=.inl 0 from by rw [HI2.out.2,hy,caps_one];rfl)
         have x3:(m:Int)<(i:Int)+2:=by omega
         clear hy
         go_wp2_with (go_at_call 94;(refine (CN.out _ _).mono ?_;rintro e z ⟨rfl,hb⟩;have SZ:=hid (ST.out.rd.below hb);clear hb;obtain ⟨f0,f1,f2,f3⟩:=SZ.out.r4.cells;have fr4:=SZ.out.r4.free;obtain ⟨m0,m1,m2⟩:=(SZ.out.mid (.int .u32 0) (.int .i64 0) (.int .u32 0) (.bool false)).cells;have fr3:=(SZ.out.mid (.int .u32 0) (.int .i64 0) (.int .u32 0) (.bool false)).free;unfold four at m0 m1 m2 fr3))
         clear f0 f1 f2 f3 fr4 m0 m1 m2 fr3
         (try simp only [Exit.inBlock,Exit.then])
         obtain ⟨k1,k2,-⟩:=SZ.out.fin (.int .u32 0) (.int .i64 0) (.int .u32 0) (.bool false) (.int .i64 2) (.int .i64 0) (.slice none 0 0)
         obtain ⟨r0,r1,r2,r3⟩:=k1.cells
         obtain ⟨t0,t1,t2⟩:=k2.cells
         clear k1 k2
         unfold ends three four at r0 r1 r2 r3 t0 t1 t2
         refine bodyPost_ret (v:=.tuple #[.agg #[.int .u32 0,.int .i64 0,.int .u32 0,.bool false],.agg #[.int .i64 2,.int .i64 0,.slice none 0 0]]) (by simp [results,Tryz.results50,go_sem,r0,r1,r2,r3,t0,t1,t2]) rfl ?_
         exact SZ.out.bad (s:=0) HD.out (by decide) rfl (by decide)
       ·obtain rfl:i=m:=by omega
        have HN:=hid (show decO b=pars o2 (b.drop j3) from by rw [HI2.out.2,List.drop_of_length_le (by rw [HPL.out];exact Nat.le_refl _),caps_nil];rfl)
        have x2:decide ((i:Int)<(i:Int))=false:=by simp
        have hj3c:j3≤b.length∧10≤j3∧j<j3:=by have:=HJ.out;omega
        go_wp2
        go_roundw
        case rel=>exact ⟨j3,o2,rfl,hid ⟨hj3c.2.1,hj3c.1,HN.out⟩,ST⟩
        case measure=>simp [intOf];omega
     ·have y2:((t:Int) != 2)=true:=by simp;omega
      rw [if_neg g2] at HPS
      clear hlen g2
      go_wp2_with (go_at_call 94;(refine (CN.out _ _).mono ?_;rintro e z ⟨rfl,hb⟩;have SZ:=hid (ST.out.rd.below hb);clear hb;obtain ⟨f0,f1,f2,f3⟩:=SZ.out.r4.cells;have fr4:=SZ.out.r4.free;obtain ⟨m0,m1,m2⟩:=(SZ.out.mid (.int .u32 0) (.int .i64 0) (.int .u32 0) (.bool false)).cells;have fr3:=(SZ.out.mid (.int .u32 0) (.int .i64 0) (.int .u32 0) (.bool false)).free;unfold four at m0 m1 m2 fr3))
      clear f0 f1 f2 f3 fr4 m0 m1 m2 fr3
      (try simp only [Exit.inBlock,Exit.then])
      obtain ⟨k1,k2,-⟩:=SZ.out.fin (.int .u32 0) (.int .i64 0) (.int .u32 0) (.bool false) (.int .i64 2) (.int .i64 4) (.slice none 0 0)
      obtain ⟨r0,r1,r2,r3⟩:=k1.cells
      obtain ⟨t0,t1,t2⟩:=k2.cells
      clear k1 k2
      unfold ends three four at r0 r1 r2 r3 t0 t1 t2
      refine bodyPost_ret (v:=.tuple #[.agg #[.int .u32 0,.int .i64 0,.int .u32 0,.bool false],.agg #[.int .i64 2,.int .i64 4,.slice none 0 0]]) (by simp [results,Tryz.results50,go_sem,r0,r1,r2,r3,t0,t1,t2]) rfl ?_
      exact SZ.out.bad (s:=4) HPS.out (by decide) rfl (by decide)
    ·have z6:(b.length:Int)<(j:Int)+2+(m:Int):=by omega
     rw [if_neg (by rw [hlen];omega)] at HPS
     clear hlen
     go_wp2_with (go_at_call 94;(refine (CN.out _ _).mono ?_;rintro e z ⟨rfl,hb⟩;have SZ:=hid (ST.out.rd.below hb);clear hb;obtain ⟨f0,f1,f2,f3⟩:=SZ.out.r4.cells;have fr4:=SZ.out.r4.free;obtain ⟨m0,m1,m2⟩:=(SZ.out.mid (.int .u32 0) (.int .i64 0) (.int .u32 0) (.bool false)).cells;have fr3:=(SZ.out.mid (.int .u32 0) (.int .i64 0) (.int .u32 0) (.bool false)).free;unfold four at m0 m1 m2 fr3))
     clear f0 f1 f2 f3 fr4 m0 m1 m2 fr3
     (try simp only [Exit.inBlock,Exit.then])
     obtain ⟨k1,k2,-⟩:=SZ.out.fin (.int .u32 0) (.int .i64 0) (.int .u32 0) (.bool false) (.int .i64 2) (.int .i64 0) (.slice none 0 0)
     obtain ⟨r0,r1,r2,r3⟩:=k1.cells
     obtain ⟨t0,t1,t2⟩:=k2.cells
     clear k1 k2
     unfold ends three four at r0 r1 r2 r3 t0 t1 t2
     refine bodyPost_ret (v:=.tuple #[.agg #[.int .u32 0,.int .i64 0,.int .u32 0,.bool false],.agg #[.int .i64 2,.int .i64 0,.slice none 0 0]]) (by simp [results,Tryz.results50,go_sem,r0,r1,r2,r3,t0,t1,t2]) rfl ?_
     exact SZ.out.bad (s:=0) HPS.out (by decide) rfl (by decide)
   ·obtain ⟨y,hy⟩:=drop_one (b:=b) (j:=j) hlt (by omega)
    have HD:=hid (show decO b=.inl 0 from by rw [HI.out.2.2,hy,pars_one])
    have z3:(b.length:Int)<(j:Int)+2:=by omega
    clear hy
    go_wp2_with (go_at_call 94;(refine (CN.out _ _).mono ?_;rintro e z ⟨rfl,hb⟩;have SZ:=hid (ST.out.rd.below hb);clear hb;obtain ⟨f0,f1,f2,f3⟩:=SZ.out.r4.cells;have fr4:=SZ.out.r4.free;obtain ⟨m0,m1,m2⟩:=(SZ.out.mid (.int .u32 0) (.int .i64 0) (.int .u32 0) (.bool false)).cells;have fr3:=(SZ.out.mid (.int .u32 0) (.int .i64 0) (.int .u32 0) (.bool false)).free;unfold four at m0 m1 m2 fr3))
    clear f0 f1 f2 f3 fr4 m0 m1 m2 fr3
    (try simp only [Exit.inBlock,Exit.then])
    obtain ⟨k1,k2,-⟩:=SZ.out.fin (.int .u32 0) (.int .i64 0) (.int .u32 0) (.bool false) (.int .i64 2) (.int .i64 0) (.slice none 0 0)
    obtain ⟨r0,r1,r2,r3⟩:=k1.cells
    obtain ⟨t0,t1,t2⟩:=k2.cells
    clear k1 k2
    unfold ends three four at r0 r1 r2 r3 t0 t1 t2
    refine bodyPost_ret (v:=.tuple #[.agg #[.int .u32 0,.int .i64 0,.int .u32 0,.bool false],.agg #[.int .i64 2,.int .i64 0,.slice none 0 0]]) (by simp [results,Tryz.results50,go_sem,r0,r1,r2,r3,t0,t1,t2]) rfl ?_
    exact SZ.out.bad (s:=0) HD.out (by decide) rfl (by decide)
  ·obtain rfl:j=b.length:=by omega
   have HD:=hid (show decO b=.inr o from by rw [HI.out.2.2,List.drop_of_length_le (Nat.le_refl _),pars_nil])
   have z2:decide ((b.length:Int)<(b.length:Int))=false:=by simp
   obtain ⟨f0,f1,f2,f3⟩:=ST.out.rd.r4.cells
   have fr4:=ST.out.rd.r4.free
   obtain ⟨m0,m1,m2⟩:=(ST.out.rd.mid (.int .u32 o.an) (.int .i64 o.hold) (.int .u32 o.ri) (.bool o.four)).cells
   have fr3:=(ST.out.rd.mid (.int .u32 o.an) (.int .i64 o.hold) (.int .u32 o.ri) (.bool o.four)).free
   unfold four at m0 m1 m2 fr3
   go_wp2
   clear f0 f1 f2 f3 fr4 m0 m1 m2 fr3
   (try simp only [Exit.inBlock,Exit.then])
   obtain ⟨k1,k2,kb⟩:=ST.out.rd.fin (.int .u32 o.an) (.int .i64 o.hold) (.int .u32 o.ri) (.bool o.four) (.int .i64 0) (.int .i64 0) (.slice none 0 0)
   obtain ⟨r0,r1,r2,r3⟩:=k1.cells
   obtain ⟨t0,t1,t2⟩:=k2.cells
   clear k1 k2
   unfold ends three four at r0 r1 r2 r3 t0 t1 t2
   refine bodyPost_ret (v:=.tuple #[.agg #[.int .u32 o.an,.int .i64 o.hold,.int .u32 o.ri,.bool o.four],.agg #[.int .i64 0,.int .i64 0,.slice none 0 0]]) (by simp [results,Tryz.results50,go_sem,r0,r1,r2,r3,t0,t1,t2]) rfl ?_
   unfold DecF9
   rw [HD.out]
   exact ⟨_,rfl,⟨show (Lit.int .i64 0).wf=true by decide,show (Lit.int .i64 0).wf=true by decide,_,rfl,U8s.nil _⟩,kb⟩
theorem decode_r (v:Value) (b:List Nat) (w:World) (hv:U8s w v b) (hl:b.length≤1600):Calls Tryz.prog 50 #[v] w (DecF9 b w):=by
 by_cases h:b.length<10
 ·exact decode_r0 v b w hv h
 ·exact decode_r10 v b w hv (by omega) hl
end Opn
end Go.Proofs.YtjfmompgkkdliaaGreatDoor
