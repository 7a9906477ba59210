/- Part of the proof. -/
import Derived.Shelf.Abstract
import Derived.Shelf.RegionOpen
import Derived.OwnWalkIn
import Derived.TacticsInMore
import Derived.LoopNIn
import Derived.LoopIn
import Derived.Test.YtjfmompgkkdliaaGreatDoorH18
open Go.Lib (hid)
set_option maxRecDepth 100000
set_option maxHeartbeats 40000000
namespace Go.Proofs.YtjfmompgkkdliaaGreatDoor
namespace Seg
open Go.RowKit Go.Shelf Mem Segm
attribute [local go_sem] Oper.semAt_some
theorem chunk_any (A:Option Addr) (L c:Nat) (w:World):Calls Tryz.prog 175 #[.slice A L c,.int .i64 255] w fun e w' =>
  e=.returned (.func (.func 179) #[] #[.pointer (some ⟨w.heap.size,0,none⟩),.pointer (some ⟨w.heap.size+1,0,none⟩)])∧w'=(w.alloc (.cells #[.slice A L c] 27)).alloc (.cells #[.int .i64 255] 3):=by
 have hmf:∀ (fn:Fn) (first cap:Array Value) (w:World),(Instr.makeFunc fn first cap).run Tryz.prog w=.ok (.func fn first cap) w:=fun _ _ _ _=>rfl
 go_enter Tryz.func175,Tryz.ntmps175
 go_wp2
 go_ret
 exact ⟨rfl,rfl⟩
def pieceV (A:Option Addr) (L:Nat) (j:Nat):Value:=.slice (A.map fun x=>⟨x.block,x.off+255*j,none⟩) (min 255 (L - 255*j)) (min 255 (L - 255*j))
abbrev Nth (L:Nat):={ j:Nat // 255*j<L }
abbrev encP (A:Option Addr) (L:Nat) (x:Nth L):Array Value:=#[pieceV A L x.1]
def upTo (L:Nat) (k:Nat) (h:255*k<L+255):List (Nth L):=(List.range k).attach.map fun j=>⟨j.1,by have:=List.mem_range.1 j.2;omega⟩
theorem upTo_val (L k:Nat) (h:255*k<L+255):(upTo L k h).map (·.1)=List.range k:=by
 unfold upTo
 rw [List.map_map]
 exact List.attach_map_subtype_val (List.range k)
theorem upTo_len (L k:Nat) (h:255*k<L+255):(upTo L k h).length=k:=by
 have:=congrArg List.length (upTo_val L k h)
 simpa using this
theorem upTo_succ (L k:Nat) (h:255*(k+1)<L+255):upTo L (k+1) h=upTo L k (by omega) ++ [⟨k,by omega⟩]:=by
 refine (List.map_inj_right (f:=fun x:Nth L=>x.1) fun a b e=>Subtype.ext e).1 ?_
 show (upTo L (k+1) h).map (·.1)=(upTo L k (by omega) ++ [(⟨k,by omega⟩:Nth L)]).map (·.1)
 rw [upTo_val,List.map_append,upTo_val,List.range_succ]
 rfl
def KeepTwo (Bs:Nat) (W W':World):Prop:=W'.heap[Bs]?=W.heap[Bs]?∧W'.heap[Bs+1]?=W.heap[Bs+1]?
theorem KeepTwo.trans {Bs:Nat} {A B C:World} (h:KeepTwo Bs A B) (k:KeepTwo Bs B C):KeepTwo Bs A C:=⟨k.1.trans h.1,k.2.trans h.2⟩
theorem KeepTwo.box {Bs:Nat} {A B:World} {t:TypeId} {v:Value} (h:KeepTwo Bs A B) (k:Boxed A Bs t v):Boxed B Bs t v:=h.1.trans k
theorem KeepTwo.box1 {Bs:Nat} {A B:World} {t:TypeId} {v:Value} (h:KeepTwo Bs A B) (k:Boxed A (Bs+1) t v):Boxed B (Bs+1) t v:=h.2.trans k
theorem below_box {n B:Nat} {W W':World} {t:TypeId} {v:Value} (h:Below n W W') (hB:B<n) (k:Boxed W B t v):Boxed W' B t v:=(h.block B hB).trans k
theorem chunk1_stops (n:Nat) (A:Option Addr) (L c:Nat) (hlen:L≤1000000) (hLc:L≤c) (hc63:c≤9223372036854775807) (hA:0<L→∃ b off,A=some ⟨b,off,none⟩) (Bs:Nat) (w:World) (hn:1≤n) (h1:Boxed w Bs 27 (.slice A L c)) (h2:Boxed w (Bs+1) 3 (.int .i64 255)) :
  SeqStopsK Fence.wide n Tryz.prog 179 #[.pointer (some ⟨Bs,0,none⟩),.pointer (some ⟨Bs+1,0,none⟩)] (encP A L) (KeepTwo Bs) (fun ys=>ys.map (·.1)=List.range ((L+254) / 255)) (fun _=>True) ((L+254) / 255) w:=fun l J Jx W hW hJ hJx hY h0=>by
 have b1:=below_box hW h1.lt h1
 have b2:=below_box hW h2.lt h2
 have HY:=hid hY
 have HJ:=hid hJ
 clear hJ hJx hY hW h1 h2
 refine callsIn_of_wp Tryz.func179 rfl trivial ?_ rfl
 simp only [Tryz.ntmps179,List.size_toArray,List.length_cons,List.length_nil,Nat.reduceAdd,Nat.reduceSub,Array.replicate_succ,Array.replicate_zero,List.push_toArray,List.append_toArray,List.nil_append,List.cons_append]
 gi_wp2
 gi_loopw [4] (fun v4 wr=>∃ (k:Nat) (hk:255*k<L+255),v4=.int .i64 ((255*k:Nat):Int)∧Hid (J (upTo L k hk) wr)∧Boxed wr Bs 27 (.slice A L c)∧Boxed wr (Bs+1) 3 (.int .i64 255))
  (fun v4 _=>L+255 - (intOf v4).toNat)
 case atStart=>exact ⟨0,by omega,rfl,hid h0,b1,b2⟩
 case round =>
  obtain ⟨k,hk,rfl,hJs,b1,b2⟩:=hrel
  have c1:=b1.cell
  have c2:=b2.cell
  by_cases hlt:255*k<L
  ·obtain ⟨b,off,rfl⟩:=hA (by omega)
   have z0:(0:Int)≤((255*k:Nat):Int):=by omega
   have z1:((255*k:Nat):Int)≤(L:Int):=by omega
   have z2:((255*k:Nat):Int)<(L:Int):=by omega
   obtain ⟨m,hm⟩:∃ m:Nat,m=min 255 (L - 255*k):=⟨_,rfl⟩
   have hmI:(if ((L - 255*k:Nat):Int)<255 then ((L - 255*k:Nat):Int) else 255)=(m:Int):=by split <;> omega
   have hJd:J (upTo L k hk) wr.drew:=HJ.out _ _ _ none hJs.out ⟨rfl,rfl,rfl,Nat.le_refl _,fun _ _ _=>rfl⟩ (fun r e=>by cases e)
   obtain ⟨fn,tmps,assign,body,hy,hR⟩:=HY.out (upTo L k hk) ⟨k,hlt⟩ wr.drew hJd (by rw [upTo_len];omega)
   simp only [encP,pieceV,Option.map_some] at hy
   rw [← hm] at hy
   have z3:(0:Int)<(m:Int):=by omega
   have z4:((255*k:Nat):Int)+(m:Int)≤(L:Int):=by omega
   have z5:((255*k:Nat):Int)+(m:Int)≤(c:Int):=by omega
   have HM:=hid hm
   clear hm
   gi_wp2
   gi_region
   clear hmI
   gi_wp2
   refine hR.mono ?_
   rintro e w3 (⟨rfl,hJ3,hk3⟩ | ⟨rfl,hJx3⟩)
   ·have d1:=hk3.box (show Boxed wr.drew _ _ _ from b1)
    have d2:=hk3.box1 (show Boxed wr.drew _ _ _ from b2)
    have e1:=d1.cell
    have e2:=d2.cell
    gi_wp2
    go_roundw
    case rel=>exact ⟨k+1,by omega,by congr 1,hid (by rw [upTo_succ];exact hJ3),d1,d2⟩
    case measure=>simp [intOf];omega
   ·gi_wp2
    refine bodyPost_ret (results_none rfl _ _ _) rfl ?_
    exact ⟨⟨_,rfl⟩,.inr ⟨_,trivial,hJx3⟩⟩
  ·gi_wp2
   go_end0
   refine ⟨⟨_,rfl⟩,.inl ⟨upTo L k hk,?_,hJs.out⟩⟩
   rw [upTo_val]
   congr 1
   omega
end Seg
namespace Seg
open Go.RowKit Mem Segm
structure Rounds (base fb B1 B2 Bs:Nat) (g:Option Nat) (W:World) (vr:Value) (P:List Piece) (v:Value) (X:World):Prop where
 row:Boxed X B2 26 v
 own:OwnSegsF 108 base fb X v P
 at_:v.ownBlock=g∨∃ b,v.ownBlock=some b∧W.heap.size≤b
 one:Boxed X B1 27 vr
 src:Boxed X Bs 27 vr
 num:Boxed X (Bs+1) 3 (.int .i64 255)
 rest:Spared B1 B2 g W X
theorem rounds_own {β:Type} {base fb B1 B2 Bs B:Nat} {g:Option Nat} {W:World} {vr:Value} {f:β→List Piece} (hB:W.heap.size≤B):OwnFrom B (fun (s:β) X=>∃ v,Rounds base fb B1 B2 Bs g W vr (f s) v X):=by
 rintro s X Y row ⟨v,h⟩ hg hr
 have hr2:=fun r e=>(hr r e).2
 have hb:∀ {b t u},Boxed X b t u→Boxed Y b t u:=fun {b t u} k=>boxed_own (β:=Unit) b t (fun _=>u) () X Y row k hg hr2
 obtain ⟨q,h1,h2,h3,h4⟩:=h.own
 refine ⟨v,hb h.row,⟨q,own_own h1 hg hr2,h2.own hg hr2,h3,h4⟩,h.at_,hb h.one,hb h.src,hb h.num,h.rest.grown hg fun r e hlt=>?_⟩
 have:=(hr r e).1
 omega
theorem keeps_below {X X1:World} (hb:Below X.heap.size X X1):KeepsOthers X X1:=⟨hb.size,fun k _ hk _=>(hb.block k (Array.getElem?_eq_some_iff.1 hk).1).trans hk⟩
theorem round_step {base fb B1 B2 Bs:Nat} {g:Option Nat} {W X X1 X2:World} {vr v:Value} {P:List Piece} {q:List Value} {k:Int} {l:List Nat} {L c4:Nat} {A1 A4:Option Addr} {m c1:Nat}
  (h:Rounds base fb B1 B2 Bs g W vr P v X) (hL:L=P.length) (h12:B1≠B2) (hs2:Bs≠B2) (hn2:Bs+1≠B2)
  (hown:X.ownsRow base 108 2 v L (segCells P q)) (hq:Nums32 X P q) (ha:Apart v q) (hf:FreshQ fb q)
  (hb1:Below X.heap.size X X1) (hu:U32s X1 (.slice A1 m c1) l) (hne:∀ b off m' c,Value.slice A1 m c1=.slice (some ⟨b,off,none⟩) m' c→0<m'→v.ownBlock≠some b) (hfn:FreshQ fb [.slice A1 m c1])
  (hWX:W.heap.size≤X.heap.size)
  (hown4:X2.ownsRow base 108 2 (.slice A4 (L+1) c4) (L+1) (segCells P q ++ [.int .i64 k,.slice A1 m c1]))
  (hg:(X1.alloc (.cells #[.int .i64 k,.slice A1 m c1] 108)).grownBy X2 v.ownBlock)
  (hat:(Value.slice A4 (L+1) c4).ownBlock=v.ownBlock∨(Value.slice A4 (L+1) c4).ownBlock=some (X1.alloc (.cells #[.int .i64 k,.slice A1 m c1] 108)).heap.size) :
  KeepsOthers X (X2.setCell ⟨B2,0,none⟩ (.slice A4 (L+1) c4))∧KeepTwo Bs X (X2.setCell ⟨B2,0,none⟩ (.slice A4 (L+1) c4))∧Rounds base fb B1 B2 Bs g W vr (P ++ [(k,l)]) (.slice A4 (L+1) c4) (X2.setCell ⟨B2,0,none⟩ (.slice A4 (L+1) c4)):=by
 subst hL
 have hb2:Below X.heap.size X (X1.alloc (.cells #[.int .i64 k,.slice A1 m c1] 108)):=hb1.alloc hb1.size _
 have box:∀ {B t u},Boxed X B t u→t≠108→Boxed X2 B t u:=fun {B t u} kx ht=>by
  have h1:Boxed (X1.alloc (.cells #[.int .i64 k,.slice A1 m c1] 108)) B t u:=(hb2.block B kx.lt).trans kx
  exact h1.kept hg (kx.not_row ht hown)
 have r2:=box h.row (by decide)
 have o2:=box h.one (by decide)
 have s2:=box h.src (by decide)
 have n2:=box h.num (by decide)
 have r3:=r2.set (.slice A4 (P.length+1) c4)
 have s3:=s2.other hs2 (.slice A4 (P.length+1) c4)
 have n3:=n2.other hn2 (.slice A4 (P.length+1) c4)
 obtain ⟨Av,cv,hv⟩:=own_form hown
 obtain ⟨e1,e2,e3⟩:=segs_grownQ (p2:=[(k,l)]) (q2:=[.slice A1 m c1]) ((Below.refl _ X1).alloc (Nat.le_refl _) _) (hq.keep hb1) ha (Nums32.one hu) (Apart.one hne) hg hat (by simp) (by simp) hown4
 refine ⟨?_,⟨s3.trans h.src.symm,n3.trans h.num.symm⟩,r3,?_,?_,o2.other h12 _,s3,n3,?_⟩
 ·refine ((keeps_below hb2).trans (KeepsOthers.of_grownBy hg fun j o ej hj=>?_)).trans (KeepsOthers.setCell _ _ _)
  rcases hown.2 with ⟨rfl,_⟩ | ⟨g',cap,cur,rfl,_,hgb,_⟩
  ·simp [Value.ownBlock] at ej
  ·simp only [Value.ownBlock,Option.some.injEq] at ej
   subst ej
   have h5:=(hb2.block _ (Array.getElem?_eq_some_iff.1 hgb).1).trans hgb
   rw [h5] at hj
   cases hj
   rfl
 ·rw [hv] at r2
  exact ⟨_,e1.kept (grownBy_setCell' X2 B2 _) (.inr (r2.not_row (by decide) e1).symm),e2.set r2 _,e3,hf.append hfn⟩
 ·rcases hat with e | e
  ·rw [e];exact h.at_
  ·refine .inr ⟨_,e,?_⟩
   have:=hb2.size
   omega
 ·have h5:=(h.rest.below hWX hb2).grown hg fun r e hlt=>?_
  ·exact h5.grown (grownBy_setCell' X2 B2 _) fun r e _=>by cases e;exact .inr (.inl rfl)
  ·rcases h.at_ with e2 | ⟨b,e2,e3⟩
   ·exact .inr (.inr (by rw [← e2];exact e.symm))
   ·rw [e2] at e
    cases e
    omega
end Seg
end Go.Proofs.YtjfmompgkkdliaaGreatDoor
