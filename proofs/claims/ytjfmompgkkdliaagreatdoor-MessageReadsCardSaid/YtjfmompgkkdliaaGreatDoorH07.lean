/- Part of the proof. -/
import Derived.Test.YtjfmompgkkdliaaGreatDoorH06
import Derived.Test.YtjfmompgkkdliaaGreatDoorH04
import Derived.Deep.RegionHeld3
import Derived.Deep.DrawnRows
import Derived.Test.YtjfmompgkkdliaaGreatDoorH05
open Go.Lib (hid)
set_option maxRecDepth 100000
set_option maxHeartbeats 40000000
namespace Go.Proofs.YtjfmompgkkdliaaGreatDoor
namespace PR
open Go.RowKit Mem Pfx Oct
attribute [local go_sem ↓] Go.wp_at_zero Go.wp_at_succ
def enc (p:Pf):List Nat:=p.n.toNat :: (big p.a 4).take (sizeN p - 1)
end PR
namespace PR
open Go.RowKit Mem Pfx Oct
end PR
namespace PR
open Go.RowKit Mem Pfx Oct
def adr (r:List Nat):Nat→Nat
 | 0=>0
 | i+1=>adr r i+r.getD i 0*2 ^ (24 - 8*i)
theorem getD_small {r:List Nat} (h:Small r) (i:Nat):r.getD i 0<256:=by
 rw [List.getD_eq_getElem?_getD]
 cases hx:r[i]? with
 | none=>simp
 | some x=>simpa using h x (List.mem_of_getElem? hx)
theorem adr_form {r:List Nat} (h:Small r):∀ {i:Nat},i≤4→∃ q,adr r i=2 ^ (32 - 8*i)*q∧q<256 ^ i
 | 0,_=>⟨0,by simp [adr],by simp⟩
 | i+1,hi=>by
  obtain ⟨q,hq,hq2⟩:=adr_form h (i:=i) (by omega)
  have hx:=getD_small h i
  refine ⟨q*256+r.getD i 0,?_,by rw [Nat.pow_succ];omega⟩
  show adr r i+_=_
  rw [hq]
  match i,hi with
  | 0,_=>simp;omega
  | 1,_=>simp;omega
  | 2,_=>simp;omega
  | 3,_=>simp;omega
theorem adr_lt {r:List Nat} (h:Small r) {i:Nat} (hi:i≤4):adr r i<4294967296:=by
 obtain ⟨q,hq,hq2⟩:=adr_form h hi
 rw [hq]
 match i,hi with
 | 0,_=>simp at hq2 ⊢;omega
 | 1,_=>simp at hq2 ⊢;omega
 | 2,_=>simp at hq2 ⊢;omega
 | 3,_=>simp at hq2 ⊢;omega
 | 4,_=>simp at hq2 ⊢;omega
theorem byte_pow {y i:Nat} (hx:y<256) (hi:i<4):y*2 ^ (24 - 8*i)<2 ^ (32 - 8*i):=by
 rw [show 32 - 8*i=8+(24 - 8*i) by omega,Nat.pow_add]
 exact Nat.mul_lt_mul_of_pos_right hx (Nat.pow_pos (by decide))
theorem pow_step {i:Nat} (hi:i<4):256 ^ (4 - i)=256*256 ^ (4 - (i+1))∧2 ^ (24 - 8*i)=256 ^ (4 - (i+1)):=by
 constructor
 ·rw [show 4 - i=1+(4 - (i+1)) by omega,Nat.pow_add]
 ·rw [show (256:Nat)=2 ^ 8 by rfl,← Nat.pow_mul]
  congr 1
  omega
theorem adr_or {r:List Nat} (h:Small r) {i:Nat} (hi:i<4):bits .or .u32 (adr r i:Int) (((r.getD i 0:Nat):Int)*2 ^ (24 - 8*i))=(adr r (i+1):Int):=by
 have hx:=getD_small h i
 have h1:=adr_lt h (i:=i) (by omega)
 have h2:=adr_lt h (i:=i+1) (by omega)
 have e1:(((r.getD i 0:Nat):Int)*2 ^ (24 - 8*i))=((r.getD i 0*2 ^ (24 - 8*i):Nat):Int):=by simp
 have h3:r.getD i 0*2 ^ (24 - 8*i)<4294967296:=by
  have:adr r (i+1)=adr r i+r.getD i 0*2 ^ (24 - 8*i):=rfl
  omega
 rw [e1,u32_or_nat _ _ h1 h3]
 congr 1
 obtain ⟨q,hq,_⟩:=adr_form h (i:=i) (by omega)
 have e2:=Nat.two_pow_add_eq_or_of_lt (i:=32 - 8*i) (b:=r.getD i 0*2 ^ (24 - 8*i)) (byte_pow hx hi) q
 show _=adr r i+_
 rw [hq,e2]
theorem shl_byte {x d:Nat} (hx:x<256) (hd:d≤24):IntKind.u32.wrap ((x:Int)*2 ^ d)=(x:Int)*2 ^ d:=by
 have h:x*2 ^ d<4294967296:=by
  have h1:2 ^ d≤2 ^ 24:=Nat.pow_le_pow_right (by omega) hd
  have h2:x*2 ^ d≤255*2 ^ 24:=Nat.mul_le_mul (by omega) h1
  omega
 have e:(x:Int)*2 ^ d=((x*2 ^ d:Nat):Int):=by simp
 rw [e,IntKind.wrap_u32]
 omega
theorem val_snoc0 (l:List Nat):∀ k,val (l ++ List.replicate k 0)=val l*256 ^ k
 | 0=>by simp
 | k+1=>by
  rw [List.replicate_succ',← List.append_assoc,val_snoc,val_snoc0 l k,Nat.pow_succ]
  simp [Nat.mul_assoc]
theorem val_adr {r:List Nat}:∀ {i:Nat},i≤4→i≤r.length→val (r.take i)*256 ^ (4 - i)=adr r i
 | 0,_,_=>by simp [val,adr]
 | i+1,hi,hr=>by
  have ih:=val_adr (r:=r) (i:=i) (by omega) (by omega)
  obtain ⟨x,hx⟩:∃ x,r[i]?=some x:=⟨_,List.getElem?_eq_getElem (by omega)⟩
  have e:r.getD i 0=x:=by rw [List.getD_eq_getElem?_getD,hx];rfl
  show _=adr r i+_
  rw [← ih,e,val_take hx]
  obtain ⟨p1,p2⟩:=pow_step (i:=i) (by omega)
  rw [p1,p2,Nat.add_mul,Nat.mul_assoc]
theorem fill_adr {r:List Nat} {i:Nat} (hi:i≤4) (hr:i≤r.length):val (fill r i)=adr r i:=by
 unfold fill
 rw [val_snoc0,val_adr hi hr]
theorem drop_rest (r:List Nat) (i:Nat):rest (r.drop i) (decide (r.length<i)) 1=r.drop (i+1):=by
 unfold rest fails
 split
 ·rename_i h
  simp only [Bool.or_eq_true,decide_eq_true_eq,List.length_drop] at h
  rw [List.drop_of_length_le (by omega)]
 ·rw [List.drop_drop];rfl
theorem drop_fails (r:List Nat) (i:Nat):fails (r.drop i) (decide (r.length<i)) 1=decide (r.length<i+1):=by
 unfold fails
 rw [Bool.eq_iff_iff]
 simp only [Bool.or_eq_true,decide_eq_true_eq,List.length_drop]
 omega
theorem drop_got (r:List Nat) (i:Nat):val (got (r.drop i) (decide (r.length<i)) 1)=r.getD i 0:=by
 unfold got
 rw [drop_fails,List.getD_eq_getElem?_getD]
 by_cases h:r.length<i+1
 ·rw [decide_eq_true h,if_pos rfl,List.getElem?_eq_none (by omega)];rfl
 ·rw [decide_eq_false h,if_neg (by decide),List.drop_eq_getElem_cons (by omega),List.getElem?_eq_getElem (by omega)]
  show val [r[i]]=r[i]
  show 0*256+r[i]=r[i]
  omega
end PR
namespace PR
open Go.RowKit Mem Pfx Oct Ahead
def DecO (b:List Nat) (w:World) (e:Ending) (w':World):Prop :=
 (dec val b=none∧e=.returned (.tuple #[.slice none 0 0,.int .i64 2])∧Below w.heap.size w w') ∨
 ∃ L A c,dec val b=some L∧e=.returned (.tuple #[.slice A L.length c,.int .i64 0])∧w'.ownsRow w.heap.size 67 2 (.slice A L.length c) L.length (pcells L)∧Oks L∧Below w.heap.size w w'
structure DecSt (w0:World) (nn b:Nat) (r:List Nat) (bad:Bool) (v:Value) (m:Nat) (out:List Value) (W:World):Prop where
 rd:R W w0.heap.size nn (.pointer (some ⟨b,0,none⟩)) r bad (fun k=>k=b)
 own:W.ownsRow nn 67 2 v m out
 low:Below w0.heap.size w0 W
 le:nn≤W.heap.size
 ge:w0.heap.size≤b∧b<nn
section
variable {w0 W W':World} {nn b m m':Nat} {r r':List Nat} {bad bad':Bool} {v v':Value} {out out':List Value}
theorem own_same2 {base:Nat} {e:TypeId} {n:Nat} {xs:List Value} (h:W.ownsRow base e 2 v n xs) (hk:∀ g,v.ownBlock=some g→W'.heap[g]?=W.heap[g]?):W'.ownsRow base e 2 v n xs:=by
 obtain ⟨h1,h2⟩:=h
 refine ⟨h1,?_⟩
 rcases h2 with h2 | ⟨g,cap,cur,hv,hg,hh,r⟩
 ·exact .inl h2
 ·exact .inr ⟨g,cap,cur,hv,hg,(hk g (by rw [hv];rfl)).trans hh,r⟩
theorem DecSt.below (h:DecSt w0 nn b r bad v m out W) (hb:Below W.heap.size W W'):DecSt w0 nn b r bad v m out W' :=
 ⟨h.rd.below hb,own_keep h.own hb,h.low.trans (hb.mono h.low.size),Nat.le_trans h.le hb.size,h.ge⟩
theorem DecSt.read (h:DecSt w0 nn b r bad v m out W) (hr:R W' w0.heap.size nn (.pointer (some ⟨b,0,none⟩)) r' bad' (fun k=>k=b)) (ho:Only (fun k=>k=b) W W'):DecSt w0 nn b r' bad' v m out W':=by
 refine ⟨hr,own_same2 h.own fun g hg=>ho.block g (h.own.lt g hg).2 (fun e=>?_),h.low.trans (ho.below (fun k hk=>by rw [hk];exact h.ge.1) h.low.size),Nat.le_trans h.le ho.size,h.ge⟩
 have h1:=(h.own.lt g hg).1
 have h2:=h.ge.2
 omega
theorem DecSt.grown (h:DecSt w0 nn b r bad v m out W) (ho:W'.ownsRow nn 67 2 v' m' out') (hb:Below nn W W'):DecSt w0 nn b r bad v' m' out' W' :=
 ⟨h.rd.keep (fun k hk=>hb.block k hk) hb.size,ho,h.low.trans (hb.mono (Nat.le_of_lt (Nat.lt_of_le_of_lt h.ge.1 h.ge.2))),Nat.le_trans h.le hb.size,h.ge⟩
end
theorem dec_start {b:List Nat} {w w1:World} {k:Nat} (hR:R w1 w.heap.size w1.heap.size (.pointer (some ⟨k,0,none⟩)) b false (fun j=>j=k)) (hb:Below w.heap.size w w1):DecSt w w1.heap.size k b false (.slice none 0 0) 0 [] w1:=by
 refine ⟨hR,⟨rfl,.inl ⟨rfl,rfl⟩⟩,hb,Nat.le_refl _,?_⟩
 have h:=hR.low k rfl
 exact h
theorem own_two2 (w:World) (o:Obj) (x y:Value) (t:TypeId):Row ((w.alloc o).alloc (.cells #[x,y] t)) 2 (.slice (some ⟨w.heap.size+1,0,none⟩) 1 1) 1 [x,y]:=by
 have h:=own_one2 (w:=w.alloc o) x y t
 have e:(w.alloc o).heap.size=w.heap.size+1:=by simp
 rw [e] at h
 exact h
def slen:Value→Nat
 | .slice _ n _=>n
 | _=>0
theorem head_reads {n:Nat} {r:List Nat}:val (got (n :: r) false 1)=n∧rest (n :: r) false 1=r∧fails (n :: r) false 1=false:=by
 have h:fails (n :: r) false 1=false:=by
  simp only [fails,Bool.false_or,Bool.or_eq_false_iff,decide_eq_false_iff_not,List.length_cons]
  omega
 refine ⟨?_,?_,h⟩
 ·unfold got
  rw [h,if_neg (by decide)]
  show 0*256+n=n
  omega
 ·unfold rest
  rw [h,if_neg (by decide)]
  rfl
theorem decode_own (v:Value) (b:List Nat) (w:World) (hv:U8s w v b) (hl:b.length≤100000):Calls Tryz.prog 89 #[v] w (DecO b w):=by
 obtain ⟨i0,E0⟩:=elemP
 have HS:=hid hv.2
 have CN:=hid (new_any v b w hv (by omega))
 clear hv
 have CL:=hid (fun (w0:World) (nn k:Nat) (r:List Nat) (bad:Bool) (v:Value) (m:Nat) (out:List Value) (W:World) (h:DecSt w0 nn k r bad v m out W)=>left_any _ _ nn r bad _ W h.rd)
 have CB:=hid (fun (w0:World) (nn k:Nat) (r:List Nat) (bad:Bool) (v:Value) (m:Nat) (out:List Value) (W:World) (h:DecSt w0 nn k r bad v m out W)=>bad_any _ _ nn r bad _ W h.rd)
 go_enter Tryz.func89,Tryz.ntmps89
 go_wp2
 refine wp_scope_ahead 0 (by rfl) ?_
 go_wp2_with (go_at_call 81;refine (CN.out).mono ?_;rintro e w1 ⟨k,rfl,hR,hb⟩;have S0:=hid (dec_start hR hb);clear hR hb)
 go_loopw [4] (fun v4 wx=>∃ (m:Nat) (A:Option Addr) (c:Nat) (rs:List Nat) (out:List Pf),v4=.slice A m c∧m+rs.length≤b.length∧Hid (m=out.length)∧Hid (Small rs)∧Hid (Oks out)∧Hid (Left val b out rs)∧Hid (DecSt w w1.heap.size k rs false v4 m (pcells out) wx)) (fun v4 _=>b.length - slen v4)
 case atStart=>exact ⟨0,none,0,b,[],rfl,by omega,hid rfl,HS,hid oks_nil,hid (left_start _ _),S0⟩
 case round =>
  obtain ⟨m,Ar,cr,rs,out,rfl,hml,hm,hrs,hok,hleft,S1⟩:=hrel
  have CLS:=hid (CL.out _ _ _ _ _ _ _ _ _ S1.out)
  have CUS:=hid (fun (F:Nat→Prop) (W:World) (h:R W w.heap.size w1.heap.size (.pointer (some ⟨k,0,none⟩)) rs false F)=>u8_any _ _ _ rs false F W hrs.out h)
  cases rs with
  | nil =>
   go_wp2_with (go_at_call 87;refine (CLS.out).mono ?_;rintro e w2 ⟨rfl,hb⟩;have S2:=hid (S1.out.below hb);clear hb)
   rw [jump_ret]
   go_ret2
   have h1:=hm.out
   subst h1
   exact .inr ⟨out,_,_,left_done hleft.out,rfl,own_base S2.out.own (Nat.le_of_lt (Nat.lt_of_le_of_lt S2.out.ge.1 S2.out.ge.2)),hok.out,S2.out.low⟩
  | cons n r =>
   have hn256:n<256:=hrs.out n (by simp)
   have HR:=hid (show Small r from fun x hx=>hrs.out x (by simp [hx]))
   obtain ⟨g1,g2,g3⟩:=head_reads (n:=n) (r:=r)
   rw [g1] at CUS
   have HG:=hid (And.intro g2 g3)
   have zl:(0:Int)<((n :: r).length:Int):=by simp
   have hml2:m+r.length+1≤b.length:=by simp at hml;omega
   clear g1 g2 g3 hml
   generalize (n :: r).length=L at CLS zl
   by_cases hn32:n≤32
   ·obtain ⟨s,hs⟩:∃ s,s=span n:=⟨_,rfl⟩
    have hs4:s≤4:=hs ▸ span_le hn32
    obtain ⟨q,hq⟩:∃ q,q=1+s:=⟨_,rfl⟩
    have CS:=hid (fun (W:World)=>show Calls Tryz.prog 132 #[.agg #[.int .u32 0,.int .i64 n]] W (Tells (.int .i64 q) W) from by
     have h:=size_any ⟨0,(n:Int)⟩ W (by show 0<4294967296;omega)
     rw [size_zero hn32,← hs,← hq] at h
     exact h)
    have q1:((q:Int) == 0)=false:=by simp;omega
    have wq:IntKind.i64.wrap ((q:Int) - 1)=(s:Int):=by rw [IntKind.wrap_i64];omega
    have HS2:=hid hs
    clear hs hq
    go_wp2_with (first
     | (go_at_call 87;refine (CLS.out).mono ?_;rintro e w2 ⟨rfl,hb⟩;have S2:=hid (S1.out.below hb);clear hb)
     | (go_at_call 82;refine (CUS.out _ _ S2.out.rd).mono ?_;rintro e w3 ⟨rfl,hR,ho⟩;rw [HG.out.1,HG.out.2] at hR;have S3:=hid (S2.out.read hR ho);clear hR ho)
     | (go_at_call 132;refine (CS.out _).mono ?_;rintro e w4 ⟨rfl,hb⟩;have S4:=hid (S3.out.below hb);clear hb))
    have CP:=hid place_any
    go_loopw [7,26] (fun v7 v26 wx=>∃ i:Nat,i≤s∧v26=.int .i64 i∧v7=.int .u32 (adr r i)∧Hid (DecSt w w1.heap.size k (r.drop i) (decide (r.length<i)) (.slice Ar m cr) m (pcells out) wx)) (fun _ v26 _=>8 - (intOf v26).toNat)
    case atStart=>exact ⟨0,Nat.zero_le _,rfl,rfl,S4⟩
    case round =>
     obtain ⟨i,hi,rfl,rfl,S5⟩:=hrel
     by_cases his:i<s
     ·have t0:(0:Int)≤(i:Int):=by omega
      have t1:(i:Int)<(s:Int):=by omega
      obtain ⟨d,hd⟩:∃ d,d=24 - 8*i:=⟨_,rfl⟩
      have CPI:=hid (fun W=>CP.out i (by omega) W)
      rw [← hd] at CPI
      have d24:(d:Int)≤24:=by omega
      have hd0:(0:Int)≤(d:Int):=by omega
      have CUI:=hid (fun (F:Nat→Prop) (W:World) (h:R W w.heap.size w1.heap.size (.pointer (some ⟨k,0,none⟩)) (r.drop i) (decide (r.length<i)) F)=>u8_any _ _ _ _ _ F W (HR.out.drop i) h)
      rw [drop_got] at CUI
      have hx:=getD_small HR.out i
      have ho:=adr_or HR.out (i:=i) (by omega)
      rw [← hd] at ho
      have hw:=shl_byte (x:=r.getD i 0) (d:=d) hx (by omega)
      generalize r.getD i 0=x at CUI hx ho hw
      generalize adr r i=a0 at ho ⊢
      have HA1:=hid (adr_lt HR.out (i:=i+1) (by omega))
      clear hd
      go_wp2_with (first
       | (go_at_call 82;refine (CUI.out _ _ S5.out.rd).mono ?_;rintro e w6 ⟨rfl,hR,ho⟩;rw [drop_rest,drop_fails] at hR;have S6:=hid (S5.out.read hR ho);clear hR ho)
       | (go_at_call 133;refine (CPI.out _).mono ?_;rintro e x1 ⟨rfl,rfl⟩))
      go_roundw
      case rel=>exact ⟨i+1,his,by go_num,rfl,S6⟩
      case measure=>simp [intOf];omega
     ·obtain rfl:i=s:=by omega
      have z2:decide ((i:Int)<(i:Int))=false:=decide_eq_false (by omega)
      have CBS:=hid (CB.out _ _ _ _ _ _ _ _ _ S5.out)
      by_cases hir:i≤r.length
      ·have hbf:decide (r.length<i)=false:=decide_eq_false (by omega)
       rw [hbf] at CBS S5
       have hV:=adr_lt HR.out hs4
       have HV:=hid (fill_adr hs4 hir)
       have HN:=hid (left_next hleft.out hn32 (by rw [← HS2.out];exact hir))
       have HEL:=hid (show elemOf val n r=⟨cutN (adr r i) n,(n:Int)⟩ by rw [← HV.out,HS2.out];rfl)
       have CM:=hid (fun W=>make_in (adr r i) n hV hn32 W)
       have HCL:=hid (Nat.lt_of_le_of_lt (cutN_le (adr r i) n) hV)
       generalize adr r i=V at CM HEL HCL
       generalize cutN V n=D at CM HEL HCL
       clear hbf hV
       go_wp2_with (first
        | (go_at_call 85;refine (CBS.out).mono ?_;rintro e w6 ⟨rfl,hb⟩;have S6:=hid (S5.out.below hb);clear hb)
        | (go_at_call 134;refine (CM.out _).mono ?_;rintro e w7 ⟨rfl,hb⟩;have S7:=hid (S6.out.below hb);have S8:=hid (S7.out.below ((Below.refl _ w7).alloc (Nat.le_refl _) (.cells #[.int .u32 D,.int .i64 n] 67)));have S9:=hid (S8.out.below ((Below.refl _ _).alloc (Nat.le_refl _) (.cells #[.int .u32 D,.int .i64 n] 67)));clear hb)
        | (at_builtin;refine wpList_append_row rfl (.tmp 46) (.tmp 48) rfl E0 w1.heap.size _ m (pcells out) rfl S9.out.own _ 1 (pcells [⟨D,(n:Int)⟩]) rfl (own_two2 _ _ _ _ _) (ones_p _) (by unfold maxLen;omega) (by omega) S9.out.le (m+1) rfl ?_;intro A4 c4 w8 hown4 hg4 hat4 hb4;have SA:=hid (S9.out.grown hown4 hb4);clear hown4 hg4 hat4 hb4))
       go_roundw
       case rel =>
        have h:=SA.out
        rw [← pcells_append] at h
        refine ⟨m+1,_,_,r.drop i,out ++ [⟨D,(n:Int)⟩],rfl,by rw [List.length_drop];omega,hid (by rw [List.length_append,← hm.out];rfl),hid (HR.out.drop i),hid (hok.out.append fun p hp=>?_),hid (by rw [HS2.out];rw [← HEL.out];exact HN.out),hid h⟩
        simp only [List.mem_singleton] at hp
        subst hp
        refine ⟨HCL.out,?_⟩
        simp [Lit.wf,IntKind.min,IntKind.max,IntKind.signed,IntKind.bits]
        omega
       case measure=>simp [slen];omega
      ·have hbt:decide (r.length<i)=true:=decide_eq_true (by omega)
       rw [hbt] at CBS S5
       have HD:=hid (left_bad hleft.out (.inr (by rw [← HS2.out];omega)))
       clear hbt
       go_wp2_with (first
        | (go_at_call 85;refine (CBS.out).mono ?_;rintro e w6 ⟨rfl,hb⟩;have S6:=hid (S5.out.below hb);clear hb))
       go_step3
       refine ⟨rfl,?_⟩
       go_wp2
       rw [Exit.noGoto_ret]
       go_ret2
       exact .inl ⟨HD.out,rfl,S6.out.low⟩
   ·have CS:=hid (fun (W:World)=>show Calls Tryz.prog 132 #[.agg #[.int .u32 0,.int .i64 n]] W (Tells (.int .i64 0) W) from by
     have h:=size_any ⟨0,(n:Int)⟩ W (by show 0<4294967296;omega)
     rw [size_big (by omega)] at h
     exact h)
    have HD:=hid (left_bad hleft.out (.inl (by omega)))
    go_wp2_with (first
     | (go_at_call 87;refine (CLS.out).mono ?_;rintro e w2 ⟨rfl,hb⟩;have S2:=hid (S1.out.below hb);clear hb)
     | (go_at_call 82;refine (CUS.out _ _ S2.out.rd).mono ?_;rintro e w3 ⟨rfl,hR,ho⟩;rw [HG.out.1,HG.out.2] at hR;have S3:=hid (S2.out.read hR ho);clear hR ho)
     | (go_at_call 132;refine (CS.out _).mono ?_;rintro e w4 ⟨rfl,hb⟩;have S4:=hid (S3.out.below hb);clear hb))
    go_step3
    refine ⟨rfl,?_⟩
    go_wp2
    rw [Exit.noGoto_ret]
    go_ret2
    exact .inl ⟨HD.out,rfl,S4.out.low⟩
end PR
namespace PR
open Go.RowKit Mem Pfx Oct
section
variable {w0 W W':World} {P:Value} {l l':List Nat} {F F':Nat→Prop} {B a:Nat} {n:Int}
end
end PR
end Go.Proofs.YtjfmompgkkdliaaGreatDoor
