/- Part of the proof. -/
import Derived.Test.YtjfmompgkkdliaaGreatDoorG38
import Derived.Test.YtjfmompgkkdliaaGreatDoorG23
import Derived.Test.YtjfmompgkkdliaaGreatDoorG01
import Derived.Test.YtjfmompgkkdliaaGreatDoorG03
import Derived.Lib.SmallJoins
import Derived.Lib.Hide
open Go.Lib (hid)
set_option maxRecDepth 100000
set_option maxHeartbeats 40000000
namespace Go.Proofs.YtjfmompgkkdliaaGreatDoor
namespace Msg
open Go.RowKit Mem Segm Att
open Go.Lib (hid)
theorem u32_at {W W':World} {v:Value} {l:List Nat} (h:U32s W v l) (hk:∀ b off m c,v=.slice (some ⟨b,off,none⟩) m c→0<m→W'.heap[b]?=W.heap[b]?) (hs:W.heap.size≤W'.heap.size):U32s W' v l:=by
 obtain ⟨⟨hl,A,c,rfl,hn,hc,hr⟩,hb⟩:=h
 refine ⟨⟨hl,A,c,rfl,hn,hc,fun h0=>?_⟩,hb⟩
 obtain ⟨b,off,rfl,hlt,hcell⟩:=hr h0
 exact ⟨b,off,rfl,Nat.lt_of_lt_of_le hlt hs,fun i x hx=>(World.cell?_of_block (hk b off _ c rfl h0)).trans (hcell i x hx)⟩
theorem segCells_set:∀ (i:Nat) (p:List Piece) (q:List Value) (x:Value),q.length=p.length→i<p.length→(segCells p q).set (i*2+1) x=segCells p (q.set i x)
 | _,[],_,_,_,hi=>absurd hi (Nat.not_lt_zero _)
 | _,_ :: _,[],_,h,_=>by simp at h
 | 0,s :: p,y :: q,x,_,_=>rfl
 | i+1,s :: p,y :: q,x,h,hi=>by
  have:=segCells_set i p q x (by simpa using h) (by simpa using hi)
  rw [show (i+1)*2+1=(i*2+1)+1+1 by omega]
  simp only [segCells,List.set_cons_succ,this]
structure SgSt (w:World) (p:List Piece) (A:Option Addr) (cap i:Nat) (W:World):Prop where
 own:∃ q,W.ownsRow w.heap.size 108 2 (.slice A p.length cap) p.length (segCells p q)∧Nums32 W p q∧Apart (.slice A p.length cap) q∧∀ k x,k<i→q[k]?=some x→∀ b off m c,x=.slice (some ⟨b,off,none⟩) m c→0<m→w.heap.size≤b
 low:Below w.heap.size w W
section
variable {w W W':World} {p:List Piece} {A:Option Addr} {cap i:Nat}
theorem SgSt.keep (h:SgSt w p A cap i W) (hb:Below W.heap.size W W'):SgSt w p A cap i W':=by
 obtain ⟨⟨q,h1,h2,h3,h5⟩,h4⟩:=h
 exact ⟨⟨q,own_keep h1 hb,h2.keep hb,h3,h5⟩,h4.trans (hb.mono h4.size)⟩
theorem SgSt.segs (h:SgSt w p A cap i W):Segs W (.slice A p.length cap) p:=let ⟨q,h1,h2,_⟩:=h.own;⟨q,Row.of_own h1,h2⟩
theorem SgSt.done (h:SgSt w p A cap p.length W):OwnSegsF 108 w.heap.size w.heap.size W (.slice A p.length cap) p :=
 let ⟨q,h1,h2,h3,h4⟩:=h.own
 ⟨q,h1,h2,h3,fun x hx=>by
  obtain ⟨k,hk,e⟩:=List.getElem_of_mem hx
  exact h4 k x (by rw [← h2.1];exact hk) (by rw [List.getElem?_eq_getElem hk,e])⟩
theorem SgSt.row (h:SgSt w p A cap i W) (hp:0<p.length):∃ b,A=some ⟨b,0,none⟩∧w.heap.size≤b∧b<W.heap.size∧∀ i,W.frozen? ⟨b,i,none⟩=false:=by
 obtain ⟨⟨q,h1,-,-,-⟩,-⟩:=h
 rcases h1.2 with ⟨-,h0⟩ | ⟨g,c,cur,e,hb,hg,-⟩
 ·omega
 ·injection e with e _ _
  exact ⟨g,e,hb,(Array.getElem?_eq_some_iff.1 hg).1,fun i=>Go.Joins.unfrozen_of_block hg i⟩
theorem SgSt.set {b:Nat} {s:Piece} {x:Value} (h:SgSt w p (some ⟨b,0,none⟩) cap i W) (hi:p[i]?=some s) (hx:U32s W x s.2) (hxb:∀ off m c,x=.slice (some ⟨b,off,none⟩) m c→m=0) (hxf:∀ b off m c,x=.slice (some ⟨b,off,none⟩) m c→0<m→w.heap.size≤b):SgSt w p (some ⟨b,0,none⟩) cap (i+1) (W.setCell ⟨b,i*2+1,none⟩ x):=by
 have hil:=(List.getElem?_eq_some_iff.1 hi).1
 obtain ⟨⟨q,⟨h1,h2⟩,h3,h4,h6⟩,h5⟩:=h
 rcases h2 with ⟨-,h0⟩ | ⟨g,c,cur,e,hb,hg,hn,hm,hs,ht⟩
 ·omega
 injection e with e e2 e3
 injection e with e
 injection e with e _ _
 subst e e3
 have hoff:∀ k,k≠b→(W.setCell ⟨b,i*2+1,none⟩ x).heap[k]?=W.heap[k]?:=fun k hk=>Go.RowKit.Below.heap_setCell _ _ _ _ (show k≠(⟨b,i*2+1,none⟩:Addr).block from hk)
 have hsz:(W.setCell ⟨b,i*2+1,none⟩ x).heap.size=W.heap.size:=by simp
 have hx2:∀ y∈q.set i x,∀ off m c,y=.slice (some ⟨b,off,none⟩) m c→0<m→False:=fun y hy off m c e hm=>by
  rcases List.mem_or_eq_of_mem_set hy with hy | rfl
  ·exact h4 y hy b off m c e hm rfl
  ·have:=hxb off m c e
   omega
 refine ⟨⟨q.set i x,⟨by rw [← segCells_set i p q x h3.1 hil,List.length_set];exact h1,.inr ⟨b,_,_,rfl,hb,Go.Joins.block_setCell hg x,hn,hm,by simpa using hs,?_⟩⟩,⟨by rw [List.length_set];exact h3.1,fun k s' y e1 e2=>?_⟩,fun y hy b' off m c e hm e2=>?_,fun k y hk e1=>?_⟩,h5.setCell (p:=⟨b,i*2+1,none⟩) hb x⟩
 ·rw [← segCells_set i p q x h3.1 hil,← ht]
  simp [List.take_set]
 ·have hy:y∈q.set i x:=List.mem_of_getElem? e2
  have hu:U32s W y s'.2:=by
   rw [List.getElem?_set] at e2
   split at e2
   ·rename_i hik
    subst hik
    rw [hi] at e1
    split at e2
    ·injection e1 with e1;injection e2 with e2;rw [← e1,← e2];exact hx
    ·cases e2
   ·exact h3.2 k s' y e1 e2
  exact u32_at hu (fun b' off m c e hm=>hoff b' (fun eb=>by subst eb;exact hx2 y hy off m c e hm)) (Nat.le_of_eq hsz.symm)
 ·simp only [Value.ownBlock,Option.some.injEq] at e2
  subst e2
  exact hx2 y hy off m c e hm
 ·rw [List.getElem?_set] at e1
  split at e1
  ·split at e1
   ·injection e1 with e1;rw [← e1];exact hxf
   ·cases e1
  ·exact h6 k y (by omega) e1
end
theorem segclone_any (v:Value) (p:List Piece) (w:World) (hv:Segs w v p) (hl:p.length≤100000):Calls Tryz.prog 75 #[v] w (fun e w'=>∃ A c,e=.returned (.slice A p.length c)∧SgSt w p A c 0 w'):=by
 obtain ⟨i0,E0⟩:=Seg.elemSeg
 obtain ⟨A,c,rfl,hlc,hc⟩:=hv.form
 have HV:=hid hv
 have h0:(w.alloc (.cells #[] 108)).ownsRow w.heap.size 108 2 (.slice (some ⟨w.heap.size,0,none⟩) 0 0) 0 (segCells [] []):=World.ownsRow_lit (base:=w.heap.size) (e:=108) (size:=2) w #[] 0 (Nat.le_refl _) (Nat.zero_le _) rfl
 have H0:=hid h0
 have HB:=hid (Below.refl w.heap.size w)
 have q8:∀ (W:World) (a:Option Addr) (n c n' c':Nat),(binOp .eql 26 (.slice a n c) (.slice none n' c')).run Tryz.prog W=.ok (.bool a.isNone) W:=fun W a n c n' c'=>Lib.run_eql_slice_nil W _ _ a n c n' c' Tryz.underlying26
 obtain ⟨q,hr,hq⟩:=hv
 have HR:=hid (hr.keep ((Below.refl _ w).alloc (Nat.le_refl _) (.cells #[] 108)))
 have HQ:=hid hq
 clear h0 hr hq
 cases A with
 | none =>
  obtain rfl:p=[]:=by
   obtain ⟨_,⟨_,_,_,e,_,_,hr⟩,_⟩:=HV.out
   injection e with e1 e2 e3
   subst e1
   rcases Nat.eq_zero_or_pos p.length with h | h
   ·exact List.eq_nil_of_length_eq_zero h
   ·obtain ⟨_,_,h0,_⟩:=hr h
    cases h0
  go_enter Tryz.func75,Tryz.ntmps75
  go_wp2
  go_ret
  exact ⟨none,0,rfl,⟨[],World.ownsRow_nil _ _ _ _,Nums32.nil w,(fun x hx=>by cases hx),fun k x hk=>absurd hk (Nat.not_lt_zero k)⟩,HB.out⟩
 | some ad =>
  go_enter Tryz.func75,Tryz.ntmps75
  go_wp2_with (at_builtin;refine wpList_append_row rfl (.tmp 5) (.tmp 6) rfl E0 w.heap.size _ 0 _ rfl H0.out _ p.length (segCells p q) rfl HR.out (ones_segs _ _ HQ.out.ones) (by unfold maxLen;omega) (by omega) (by simp) (p.length) (Nat.zero_add _) ?_;intro A1 c1 w1 hown1 hg1 hat1 hb1;have HO:=hid hown1;have HB1:=hid (((Below.refl _ w).alloc (Nat.le_refl _) (.cells #[] 108)).trans hb1);clear hown1 hg1 hat1 hb1)
  go_ret
  exact ⟨_,_,rfl,⟨q,HO.out,HQ.out.keep HB1.out,apart_old HO.out HQ.out (Nat.le_refl _),fun k x hk=>absurd hk (Nat.not_lt_zero k)⟩,HB1.out⟩
theorem row_apart {W:World} {base b off n m c:Nat} {t:TypeId} {A:Option Addr} {cc:Nat} {xs:List Value} (h:W.ownsRow base t 1 (.slice A n cc) n xs) (hb:b<base) (e:Value.slice A n cc=.slice (some ⟨b,off,none⟩) m c):m=0:=by
 rcases h.2 with ⟨e2,h0⟩ | ⟨g,c',cur,e2,hg,-⟩
 ·rw [e2] at e
  injection e with e _ _
  cases e
 ·rw [e2] at e
  injection e with e _ _
  injection e with e
  injection e with e _ _
  omega
theorem segments_any (v:Value) (p:List Piece) (w:World) (hv:Segs w v p) (hl:p.length≤100000) (hn:∀ s∈p,s.2.length≤1000000):Calls Tryz.prog 36 #[v] w (GivesSegsF 108 p w):=by
 have CK:=hid (segclone_any v p w hv hl)
 have CC:=hid (fun (v:Value) (l:List Nat) (W:World) (h:U32s W v l) (hl:l.length≤1000000)=>Srt.clone_any v l W h hl)
 have HN:=hid hn
 clear hv hn
 go_enter Tryz.func36,Tryz.ntmps36
 go_wp2_with (go_at_call 75;refine CK.out.mono ?_;rintro e w1 ⟨A,c,rfl,hst⟩;have ST:=hid hst;clear hst)
 clear CK
 go_loopw [9] (fun v9 wx=>∃ i:Nat,i≤p.length∧v9=.int .i64 i∧Hid (SgSt w p A c i wx)) (fun v9 _=>p.length - (intOf v9).toNat)
 case atStart=>exact ⟨0,Nat.zero_le _,rfl,ST⟩
 case round =>
  obtain ⟨i,hi,rfl,ST⟩:=hrel
  by_cases hlt:i<p.length
  ·have z1:(i:Int)<(p.length:Int):=by omega
   have z0:(0:Int)≤(i:Int):=by omega
   obtain ⟨b,rfl,hb1,hb2,hf⟩:=ST.out.row (by omega)
   have hpi:=List.getElem?_eq_getElem hlt
   generalize p[i]=s at hpi
   obtain ⟨b',off,x,e,-,c0,c1,hu⟩:=ST.out.segs.at_ hpi
   injection e with e
   injection e with e4 e5 _
   subst e4 e5
   rw [Nat.zero_add] at c0 c1
   have HU:=hid hu
   have hs2:=HN.out s (List.mem_of_getElem? hpi)
   have HP:=hid hpi
   have HX:=hid (fun (W:World) (t:TypeId)=>(Below.refl W.heap.size W).alloc (Nat.le_refl _) (.cells #[.int .i64 s.1,x] t))
   obtain ⟨A1,c1',rfl,-,-,-,-⟩:=hu.open_
   clear hu hpi
   go_wp2_with (go_at_call 37;refine (CC.out _ _ _ (HU.out.keep (HX.out _ _)) hs2).mono ?_;rintro e w2 ⟨v2,rfl,ho,hb⟩;obtain ⟨A2,c2,rfl⟩:=own_form ho;have ST2:=hid ((ST.out.keep (HX.out _ _)).keep hb);have HO:=hid ho;have HU2:=hid ((HU.out.keep (HX.out _ _)).keep hb);have c2':=keepsT hb (keepsT (HX.out _ _) c1);obtain ⟨b',e',-,-,hf2⟩:=ST2.out.row (by omega);injection e' with e';injection e' with e' _ _;subst e';have hf3:=hf2 (i*2+1);clear ho hb hf2)
   go_roundw
   case rel=>exact ⟨i+1,by omega,by go_num,hid (ST2.out.set HP.out (U32s.of_own HO.out HU2.out.2) (fun off m c e=>row_apart HO.out (by simp;omega) e) (fun b3 off m c e hm=>by rcases Nat.lt_or_ge b3 w.heap.size with h | h;(have:=row_apart HO.out (show b3<_ by simp;omega) e;omega);exact h))⟩
   case measure=>simp [intOf];omega
  ·obtain rfl:i=p.length:=by omega
   go_wp2
   go_ret
   exact ⟨_,rfl,ST.out.done,ST.out.low⟩
end Msg
end Go.Proofs.YtjfmompgkkdliaaGreatDoor
