/- Part of the proof. -/
import Derived.Test.YtjfmompgkkdliaaGreatDoorH01
import Derived.Test.YtjfmompgkkdliaaGreatDoorH18
open Go.Lib (hid)
set_option maxRecDepth 100000
set_option maxHeartbeats 40000000
namespace Go.Proofs.YtjfmompgkkdliaaGreatDoor
namespace Seg
open Go.RowKit Mem Rise Nums Segm
def SegsF (fb:Nat) (w:World) (v:Value) (p:List Piece):Prop:=∃ q,Row w 2 v p.length (segCells p q)∧Nums32 w p q∧FreshQ fb q
theorem SegsF.segs {fb:Nat} {w:World} {v:Value} {p:List Piece} (h:SegsF fb w v p):Segs w v p:=let ⟨q,h1,h2,_⟩:=h;⟨q,h1,h2⟩
theorem SegsF.of_own {fb base:Nat} {t:TypeId} {w:World} {v:Value} {p:List Piece} (h:OwnSegsF t base fb w v p):SegsF fb w v p:=let ⟨q,h1,h2,_,h4⟩:=h;⟨q,Row.of_own h1,h2,h4⟩
theorem SegsF.front {fb:Nat} {w:World} {p:List Piece} {A:Option Addr} {n c k:Nat} (h:SegsF fb w (.slice A n c) p) (hk:k≤p.length):SegsF fb w (.slice A k c) (p.take k):=by
 obtain ⟨q,h1,h2,h4⟩:=h
 have hn:n=p.length:=by
  obtain ⟨_,A',c',e,_⟩:=h1
  injection e
 subst hn
 have h3:=h1.prefix_ hk
 rw [segCells_take] at h3
 have e:(p.take k).length=k:=by rw [List.length_take];omega
 exact ⟨q.take k,by rw [e];exact h3,h2.take k,fun x hx=>h4 x (List.mem_of_mem_take hx)⟩
def GivesF (fb:Nat) (p:List Piece) (w:World) (e:Ending) (w':World):Prop:=∃ v,e=.returned v∧OwnSegsF 108 w.heap.size fb w' v p∧Below w.heap.size w w'
theorem put_new_endF {fb:Nat} {w w1 w2:World} {p:List Piece} {q:List Value} {n L c1 c2:Nat} {A1 A2:Option Addr} {xs:List Value} (hL:L=p.length) (hq:Nums32 w p q) (hf:FreshQ fb q) (hfb:fb≤w.heap.size) (h1:Below w.heap.size w w1) (h32:n<4294967296)
  (hown1:w1.ownsRow w.heap.size 108 2 (.slice A1 L c1) L xs)
  (hown:w2.ownsRow w.heap.size 108 2 (.slice A2 (L+1) c2) (L+1) ([] ++ segCells p q ++ [.int .i64 2,.slice (some ⟨w1.heap.size,0,none⟩) 1 1]))
  (hg:((w1.alloc (.cells #[.int .u32 n] 22)).alloc (.cells #[.int .i64 2,.slice (some ⟨w1.heap.size,0,none⟩) 1 1] 108)).grownBy w2 (Value.slice A1 L c1).ownBlock)
  (hat:(Value.slice A2 (L+1) c2).ownBlock=(Value.slice A1 L c1).ownBlock∨(Value.slice A2 (L+1) c2).ownBlock=some ((w1.alloc (.cells #[.int .u32 n] 22)).alloc (.cells #[.int .i64 2,.slice (some ⟨w1.heap.size,0,none⟩) 1 1] 108)).heap.size)
  (h2:Below w.heap.size ((w1.alloc (.cells #[.int .u32 n] 22)).alloc (.cells #[.int .i64 2,.slice (some ⟨w1.heap.size,0,none⟩) 1 1] 108)) w2) :
  GivesF fb (p ++ [(2,[n])]) w (.returned (.slice A2 (L+1) c2)) w2:=by
 subst hL
 have hbn:Below w.heap.size w (w1.alloc (.cells #[.int .u32 n] 22)):=h1.alloc h1.size _
 have hb:Below w.heap.size w w2:=(hbn.alloc hbn.size _).trans h2
 obtain ⟨k1,k2,k3⟩:=segs_grownQ (p2:=[(2,[n])]) (q2:=[.slice (some ⟨w1.heap.size,0,none⟩) 1 1]) ((Below.refl _ _).alloc (Nat.le_refl _) _) (hq.keep hbn) (apart_old hown1 hq (Nat.le_refl _)) (Nums32.one (U32s.one w1 n _ h32)) (Apart.one fun b off m c e _=>by
  injection e with e1
  injection e1 with e1
  injection e1 with e1
  rw [← e1]
  exact fun e2=>own_other hown1 rfl e2.symm) hg hat (by simp) (by simp) (by rw [List.nil_append] at hown;exact hown)
 refine ⟨_,rfl,⟨_,k1,k2,k3,hf.append (FreshQ.one fun b off m c e _=>?_)⟩,hb⟩
 injection e with e1
 injection e1 with e1
 injection e1 with e1
 rw [← e1]
 exact Nat.le_trans hfb h1.size
theorem put_newF (fb:Nat) (v:Value) (p:List Piece) (n:Nat) (w:World) (hvF:SegsF fb w v p) (hfb:fb≤w.heap.size) (hlen:p.length≤100000) (h32:n<4294967296) (hp:putS p n=p ++ [(2,[n])])
  (hk:p=[]∨∃ f s,p=f ++ [s]∧¬ (s.1=2∧s.2.length<255)) :
  Calls Tryz.prog 170 #[v,.int .u32 n] w (GivesF fb (putS p n) w):=by
 rw [hp]
 obtain ⟨i1,E1⟩:=elemSeg
 have hv:=hvF.segs
 obtain ⟨A,c,rfl,hlc,hc⟩:=hv.form
 have hN:=noRoom_of hv hk
 have hb1:Below w.heap.size w (w.alloc (.cells #[] 108)):=(Below.refl _ w).alloc (Nat.le_refl _) _
 obtain ⟨q,hR0,hq,hfq⟩:=hvF
 have HFQ:=hid hfq
 have hR:=hR0.keep hb1
 clear hfq hv
 have hmade:=World.ownsRow_lit (base:=w.heap.size) (e:=108) (size:=2) w #[] 0 (Nat.le_refl _) (Nat.zero_le _) rfl
 have HQ:=hid hq
 have hones:=hid (ones_segs p q hq.ones)
 have HB:=hid hb1
 obtain ⟨L,hL⟩:∃ L,L=p.length:=⟨_,rfl⟩
 rw [← hL] at hlen hlc hR hN ⊢
 have HL:=hid hL
 clear hq hp hk hR0 hb1 hL
 have hLm:L≤maxLen:=by unfold maxLen;omega
 rcases hN with rfl | ⟨b,off,k0,rfl,hL1,hbw,hc1,hN⟩
 ·have z1:¬ (0:Int)≤-1:=by omega
  go_enter Tryz.func170,Tryz.ntmps170
  go_wp2_with (first | (at_builtin;refine wpList_append_row rfl (.tmp 48) (.tmp 49) rfl E1 w.heap.size _ 0 [] rfl hmade _ 0 _ rfl hR hones.out (by unfold maxLen;omega) (by omega) (by simp) 0 (by omega) ?_;intro A1 c1 w1 hown1 hg1 hat1 hbA;have HA:=hid hbA;clear hbA) | (at_builtin;refine wpList_append_row rfl (.tmp 50) (.tmp 54) rfl E1 w.heap.size _ 0 _ rfl ((hown1.alloc _).alloc _) _ 1 [.int .i64 2,.slice (some ⟨w1.heap.size,0,none⟩) 1 1] rfl (row_seg_at _ _ _ _ (by simp)) (ones_two _ _ _ _) (by unfold maxLen;omega) (by omega) (by have:=(HB.out.trans HA.out).size;simp;omega) (0+1) rfl ?_;intro A2 c2 w2 hown2 hg2 hat2 hb2))
  go_ret
  exact put_new_endF HL.out HQ.out HFQ.out hfb (HB.out.trans HA.out) h32 hown1 hown2 hg2 hat2 hb2
 ·rcases hN with hk0 | ⟨B,m,cc,rfl,hm,hmc,hcc,hc2⟩
  ·have t1:((k0:Int) == 2)=false:=by simpa using hk0
   go_enter Tryz.func170,Tryz.ntmps170
   go_wp2_with (first | (at_builtin;refine wpList_append_row rfl (.tmp 48) (.tmp 49) rfl E1 w.heap.size _ 0 [] rfl hmade _ L _ rfl hR hones.out (by unfold maxLen;omega) (by omega) (by simp) L (by omega) ?_;intro A1 c1 w1 hown1 hg1 hat1 hbA;have HA:=hid hbA;clear hbA) | (at_builtin;refine wpList_append_row rfl (.tmp 50) (.tmp 54) rfl E1 w.heap.size _ L _ rfl ((hown1.alloc _).alloc _) _ 1 [.int .i64 2,.slice (some ⟨w1.heap.size,0,none⟩) 1 1] rfl (row_seg_at _ _ _ _ (by simp)) (ones_two _ _ _ _) (by unfold maxLen;omega) (by omega) (by have:=(HB.out.trans HA.out).size;simp;omega) (L+1) rfl ?_;intro A2 c2 w2 hown2 hg2 hat2 hb2))
   go_ret
   exact put_new_endF HL.out HQ.out HFQ.out hfb (HB.out.trans HA.out) h32 hown1 hown2 hg2 hat2 hb2
  ·have t1:¬ (m:Int)<255:=by omega
   go_enter Tryz.func170,Tryz.ntmps170
   go_wp2_with (first | (at_builtin;refine wpList_append_row rfl (.tmp 48) (.tmp 49) rfl E1 w.heap.size _ 0 [] rfl hmade _ L _ rfl hR hones.out (by unfold maxLen;omega) (by omega) (by simp) L (by omega) ?_;intro A1 c1 w1 hown1 hg1 hat1 hbA;have HA:=hid hbA;clear hbA) | (at_builtin;refine wpList_append_row rfl (.tmp 50) (.tmp 54) rfl E1 w.heap.size _ L _ rfl ((hown1.alloc _).alloc _) _ 1 [.int .i64 2,.slice (some ⟨w1.heap.size,0,none⟩) 1 1] rfl (row_seg_at _ _ _ _ (by simp)) (ones_two _ _ _ _) (by unfold maxLen;omega) (by omega) (by have:=(HB.out.trans HA.out).size;simp;omega) (L+1) rfl ?_;intro A2 c2 w2 hown2 hg2 hat2 hb2))
   go_ret
   exact put_new_endF HL.out HQ.out HFQ.out hfb (HB.out.trans HA.out) h32 hown1 hown2 hg2 hat2 hb2
theorem put_room_endF {fb:Nat} {w w1 w3 w4:World} {f:List Piece} {q:List Value} {n L c1 c4 c3 m:Nat} {A1 A4 A3:Option Addr} {l:List Nat} {xs:List Value} (hL:L=f.length+1) (hq:Nums32 w f q) (hf:FreshQ fb q) (hfb:fb≤w.heap.size) (h1:Below w.heap.size w w1) (hm:m=l.length) (hl:∀ y∈l,y<4294967296) (hn:n<4294967296)
  (hb3:Below w1.heap.size w1 w3) (hown1:w1.ownsRow w.heap.size 108 2 (.slice A1 (L - 1) c1) (L - 1) xs)
  (hown3:w3.ownsRow w1.heap.size 22 1 (.slice A3 (m+1) c3) (m+1) ([] ++ (l.map fun n:Nat=>Value.int .u32 n) ++ [.int .u32 n]))
  (hown:w4.ownsRow w.heap.size 108 2 (.slice A4 L c4) L ([] ++ segCells f q ++ [.int .i64 2,.slice A3 (m+1) c3]))
  (hg:(w3.alloc (.cells #[.int .i64 2,.slice A3 (m+1) c3] 108)).grownBy w4 (Value.slice A1 (L - 1) c1).ownBlock)
  (hat:(Value.slice A4 L c4).ownBlock=(Value.slice A1 (L - 1) c1).ownBlock∨(Value.slice A4 L c4).ownBlock=some (w3.alloc (.cells #[.int .i64 2,.slice A3 (m+1) c3] 108)).heap.size)
  (h4:Below w.heap.size (w3.alloc (.cells #[.int .i64 2,.slice A3 (m+1) c3] 108)) w4) :
  GivesF fb (f ++ [(2,l ++ [n])]) w (.returned (.slice A4 L c4)) w4:=by
 subst hm
 have hw3:Below w.heap.size w w3:=h1.trans (hb3.mono h1.size)
 have hb:Below w.heap.size w w4:=(hw3.alloc hw3.size _).trans h4
 have hu:U32s w3 (.slice A3 (l.length+1) c3) (l ++ [n]):=by
  refine ⟨Row.of_own (by simpa using hown3),fun y hy=>?_⟩
  rcases List.mem_append.1 hy with hy | hy
  ·exact hl y hy
  ·rw [List.mem_singleton.1 hy];exact hn
 have hlow:∀ (b off m c:Nat),Value.slice A3 (l.length+1) c3=.slice (some ⟨b,off,none⟩) m c→w1.heap.size≤b:=fun b off m c e=>by
  obtain ⟨g,cap,e3,hg1,hg2⟩:=hown3.form (by omega)
  rw [e] at e3
  injection e3 with e3
  injection e3 with e3
  injection e3 with e3
  omega
 obtain ⟨k1,k2,k3⟩:=segs_grownQ (p2:=[(2,l ++ [n])]) (q2:=[.slice A3 (l.length+1) c3]) ((Below.refl _ _).alloc (Nat.le_refl _) _) (hq.keep hw3) (apart_old hown1 hq (Nat.le_refl _)) (Nums32.one hu) (Apart.one fun b off m c e hm e2=>by
  have h5:=(hown1.lt b e2).2
  have h6:=hlow b off m c e
  omega) hg hat (by simp) (by simp;omega) (by rw [List.nil_append] at hown;exact hown)
 refine ⟨_,rfl,⟨_,k1,k2,k3,hf.append (FreshQ.one fun b off m c e _=>Nat.le_trans (Nat.le_trans hfb h1.size) (hlow b off m c e))⟩,hb⟩
theorem put_roomF (fb:Nat) (v:Value) (f:List Piece) (s:Piece) (n:Nat) (w:World) (hvF:SegsF fb w v (f ++ [s])) (hfb:fb≤w.heap.size) (hlen:f.length≤100000) (h32:n<4294967296) (h1:s.1=2) (h2:s.2.length<255) :
  Calls Tryz.prog 170 #[v,.int .u32 n] w (GivesF fb (putS (f ++ [s]) n) w):=by
 rw [putS_room n h1 h2]
 obtain ⟨i1,E1⟩:=elemSeg
 obtain ⟨i2,E2⟩:=elem32
 have hv:=hvF.segs
 obtain ⟨A,c,rfl,hlc,hc⟩:=hv.form
 obtain ⟨b,off,x,rfl,hbw,hc1,hc2,hx⟩:=hv.at_ (k:=f.length) (s:=s) (by simp)
 have hf:=hvF.front (k:=f.length) (by simp)
 rw [List.take_left' rfl] at hf
 have hb1:Below w.heap.size w (w.alloc (.cells #[] 108)):=(Below.refl _ w).alloc (Nat.le_refl _) _
 obtain ⟨q,hR0,hq,hfq⟩:=hf
 have HFQ:=hid hfq
 clear hfq hvF
 have hR:=hR0.keep hb1
 obtain ⟨B,cc,rfl,hmc,hcc,-,-⟩:=hx.open_
 rw [h1] at hc1
 have hmade:=World.ownsRow_lit (base:=w.heap.size) (e:=108) (size:=2) w #[] 0 (Nat.le_refl _) (Nat.zero_le _) rfl
 have HQ:=hid hq
 have hones:=hid (ones_segs f q hq.ones)
 have HB:=hid hb1
 have HX:=hid hx
 obtain ⟨m,hm⟩:∃ m,m=s.2.length:=⟨_,rfl⟩
 rw [← hm] at h2 hmc hc2 HX
 obtain ⟨L,hL⟩:∃ L,L=f.length+1:=⟨_,rfl⟩
 have e1:(f ++ [s]).length=L:=by rw [hL];simp
 have e2:f.length=L - 1:=by omega
 rw [e1] at hlc ⊢
 rw [e2] at hc1 hc2 hR hlen
 have HM:=hid hm
 have HL:=hid hL
 have hL1:1≤L:=by omega
 clear hq hR0 hb1 hL hv h1 e1 e2 hx hm
 have z1:(m:Int)<255:=by omega
 have z2:(0:Int)≤(L:Int) - 1:=by omega
 have z3:(L:Int) - 1≤(c:Int):=by omega
 go_enter Tryz.func170,Tryz.ntmps170
 go_wp2_with (first | (at_builtin;refine wpList_append_row rfl (.tmp 29) (.tmp 32) rfl E1 w.heap.size _ 0 [] rfl hmade _ (L - 1) _ rfl hR hones.out (by unfold maxLen;omega) (by omega) (by simp) (L - 1) (by omega) ?_;intro A1 c1 w1 hown1 hg1 hat1 hbA;have HA:=hid (HB.out.trans hbA);clear hbA;have hx1:=hid ((HX.out).keep HA.out);have k1:=(HA.out.cell (p:=⟨b,off+(L - 1)*2+1,none⟩) hbw).trans hc2;have hbw1:b<w1.heap.size:=Nat.lt_of_lt_of_le hbw HA.out.size;have hm1:=World.ownsRow_lit (base:=w1.heap.size) (e:=22) (size:=1) w1 #[] 0 (Nat.le_refl _) (Nat.zero_le _) rfl;have hx2:=(hx1.out).1.keep ((Below.refl w1.heap.size w1).alloc (Nat.le_refl _) (.cells #[] 22));rw [← HM.out] at hx2) | (at_builtin;refine wpList_append_row rfl (.tmp 35) (.tmp 40) rfl E2 w1.heap.size _ 0 [] rfl hm1 _ m _ rfl hx2 (ones_u32 _) (by unfold maxLen;omega) (by omega) (by simp) m (by omega) ?_;intro A2 c2 w2 hown2 hg2 hat2 hbB) | (at_builtin;refine wpList_append_row rfl (.tmp 41) (.tmp 43) rfl E2 w1.heap.size _ m _ rfl (hown2.alloc _) _ 1 [.int .u32 n] rfl (Row.one _ _ _) (one_u32 _) (by unfold maxLen;omega) (by omega) (by have:=hbB.size;simp at this;simp;omega) (m+1) rfl ?_;intro A3 c3 w3 hown3 hg3 hat3 hbC;have hb3:=hid (Go.RowKit.Below.trans ((((Below.refl w1.heap.size w1).alloc (Nat.le_refl _) (.cells #[] 22)).trans hbB).alloc (by have:=hbB.size;simp at this;omega) (.cells #[.int .u32 n] 22)) hbC);have hown13:=own_keep hown1 hb3.out) | (at_builtin;refine wpList_append_row rfl (.tmp 34) (.tmp 46) rfl E1 w.heap.size _ (L - 1) _ rfl (hown13.alloc _) _ 1 [.int .i64 2,.slice A3 (m+1) c3] rfl (row_seg_at _ _ _ _ rfl) (ones_two _ _ _ _) (by unfold maxLen;omega) (by omega) (by have:=HA.out.size;have:=hb3.out.size;simp;omega) L (by omega) ?_;intro A4 c4 w4 hown4 hg4 hat4 hbD))
 go_ret
 exact put_room_endF HL.out HQ.out HFQ.out hfb HA.out HM.out (HX.out).2 h32 hb3.out hown1 hown3 hown4 hg4 hat4 hbD
theorem put_anyF (fb:Nat) (v:Value) (p:List Piece) (n:Nat) (w:World) (hv:SegsF fb w v p) (hfb:fb≤w.heap.size) (hlen:p.length≤100000) (h32:n<4294967296) :
  Calls Tryz.prog 170 #[v,.int .u32 n] w (GivesF fb (putS p n) w):=by
 rcases List.eq_nil_or_concat p with rfl | ⟨f,s,rfl⟩
 ·exact put_newF fb v [] n w hv hfb hlen h32 rfl (.inl rfl)
 ·rw [List.concat_eq_append] at *
  by_cases h:s.1=2∧s.2.length<255
  ·exact put_roomF fb v f s n w hv hfb (by simp at hlen;omega) h32 h.1 h.2
  ·exact put_newF fb v _ n w hv hfb hlen h32 (putS_full n h) (.inr ⟨f,s,rfl,h⟩)
end Seg
namespace Seg
open Go.RowKit Mem Rise Nums Segm
def MadeF (t:TypeId) (w:World) (v:Value) (p:List Piece) (wr:World):Prop:=OwnSegsF t w.heap.size w.heap.size wr v p∧Below w.heap.size w wr
theorem MadeF.gives {t:TypeId} {w wr w1:World} {v v1:Value} {p p1:List Piece} (h:MadeF t w v p wr) (h1:OwnSegsF t wr.heap.size w.heap.size w1 v1 p1) (hb:Below wr.heap.size wr w1):MadeF t w v1 p1 w1 :=
 ⟨h1.lower h.2.size (Nat.le_refl _),h.2.trans (hb.mono h.2.size)⟩
theorem set_endF {fb:Nat} {w wr w2 w3:World} {L c1 c3 m c:Nat} {A1 A3 B:Option Addr} {p:List Piece} {q:List Value} {l:List Nat} (hL:L=p.length) (hown:wr.ownsRow w.heap.size 108 2 (.slice A1 L c1) L (segCells p q)) (hq:Nums32 wr p q) (ha:Apart (.slice A1 L c1) q) (hf:FreshQ fb q) (hfb:fb≤wr.heap.size)
  (hb2:Below wr.heap.size wr w2) (hx:w2.ownsRow wr.heap.size 22 1 (.slice B m c) m (l.map fun n:Nat=>Value.int .u32 n)) (hl:U32s w2 (.slice B m c) l)
  (hown3:w3.ownsRow w.heap.size 108 2 (.slice A3 (L+1) c3) (L+1) (segCells p q ++ [.int .i64 1,.slice B m c]))
  (hg:(w2.alloc (.cells #[.int .i64 1,.slice B m c] 108)).grownBy w3 (Value.slice A1 L c1).ownBlock)
  (hat:(Value.slice A3 (L+1) c3).ownBlock=(Value.slice A1 L c1).ownBlock∨(Value.slice A3 (L+1) c3).ownBlock=some (w2.alloc (.cells #[.int .i64 1,.slice B m c] 108)).heap.size) :
  OwnSegsF 108 w.heap.size fb w3 (.slice A3 (L+1) c3) (p ++ [(1,l)]):=by
 subst hL
 have hlow:∀ (b off m' c':Nat),Value.slice B m c=.slice (some ⟨b,off,none⟩) m' c'→0<m'→wr.heap.size≤b:=fun b off m' c' e hm=>by
  injection e with e1 e3 e4
  obtain ⟨g,cap,e5,hg1,hg2⟩:=hx.form (by omega)
  injection e5 with e5
  rw [e1] at e5
  injection e5 with e5
  injection e5 with e5
  omega
 obtain ⟨k1,k2,k3⟩:=segs_grownQ (p2:=[(1,l)]) (q2:=[.slice B m c]) ((Below.refl _ _).alloc (Nat.le_refl _) _) (hq.keep hb2) ha (Nums32.one hl) (Apart.one fun b off m' c' e hm e2=>by
  have h5:=(hown.lt b e2).2
  have h6:=hlow b off m' c' e hm
  omega) hg hat (by simp) (by simp) hown3
 exact ⟨_,k1,k2,k3,hf.append (FreshQ.one fun b off m' c' e hm=>Nat.le_trans hfb (hlow b off m' c' e hm))⟩
theorem norm_anyF (v:Value) (p:List Piece) (w:World) (hv:Segs w v p) (hlen:bulk p≤50000) (hfit:FitS 1000 p) :
  Calls Tryz.prog 153 #[v] w (GivesSegsF 108 (normS p) w):=by
 obtain ⟨i1,E1⟩:=elemSeg
 have HV:=hid hv
 have HF:=hid hfit
 obtain ⟨A,c,rfl,hlc,hc⟩:=hv.form
 have CP:=hid (put_anyF w.heap.size)
 have CS:=hid refSet_own
 have hb0:Below w.heap.size w (w.alloc (.cells #[] 108)):=(Below.refl _ w).alloc (Nat.le_refl _) _
 have h0:MadeF 108 w (.slice (some ⟨w.heap.size,0,none⟩) 0 0) [] (w.alloc (.cells #[] 108)) :=
  ⟨⟨[],World.ownsRow_lit (base:=w.heap.size) (e:=108) (size:=2) w #[] 0 (Nat.le_refl _) (Nat.zero_le _) rfl,Nums32.nil _,fun x hx=>(by cases hx),FreshQ.nil _⟩,hb0⟩
 have H0:=hid h0
 have hbk:=hid (fun k=>Nat.le_trans (normS_len (p.take k)) (Nat.le_trans (bulk_take_le p k) hlen))
 clear hv h0 hb0 hfit
 go_enter Tryz.func153,Tryz.ntmps153
 go_wp2
 go_loopw [3,4,5] (fun v3 v4 _ wr=>∃ (i:Nat) (A3:Option Addr) (c3:Nat),i≤p.length∧v4=.int .i64 i∧v3=.slice A3 (normS (p.take i)).length c3∧Hid (MadeF 108 w v3 (normS (p.take i)) wr)) (fun _ v4 _ _=>p.length - (intOf v4).toNat)
 case atStart=>exact ⟨0,some ⟨w.heap.size,0,none⟩,0,Nat.zero_le _,rfl,rfl,H0.out⟩
 case round =>
  obtain ⟨i,A3,c3,hi,rfl,rfl,hM⟩:=hrel
  by_cases hlt:i<p.length
  ·obtain ⟨s,hs⟩:∃ s,p[i]?=some s:=⟨_,List.getElem?_eq_getElem hlt⟩
   obtain ⟨b,off,x,rfl,hbw,k1,k2,hx⟩:=((HV.out).keep hM.out.2).at_ hs
   have hsl:s.2.length≤1000:=HF.out s (List.mem_of_getElem? hs)
   obtain ⟨B,cc,rfl,hmc,hcc,-,-⟩:=hx.open_
   have hsb:=bulk_take hs
   have hbl:=bulk_take_le p (i+1)
   have hnl:=normS_len (p.take i)
   have hi0:(0:Int)≤(i:Int):=by omega
   by_cases hk2:s.1=2
   ·have HN:=hid (norm_seq hs hk2)
    rw [hk2] at k1
    have HS:=hid hs
    have HK:=hid hk2
    have HSL:=hid (show bulk (p.take i)+(s.2.length+1)≤50000 by omega)
    have HNL:=hid hnl
    clear hs hk2 hsb hbl hnl
    go_wp2
    go_loopw [3,5] (fun v3 v5 wr=>∃ (j:Nat) (A5:Option Addr) (c5:Nat),j≤s.2.length∧v5=.int .i64 j∧v3=.slice A5 (putsS (normS (p.take i)) (s.2.take j)).length c5∧Hid (MadeF 108 w v3 (putsS (normS (p.take i)) (s.2.take j)) wr)) (fun _ v5 _=>s.2.length - (intOf v5).toNat)
    case atStart=>exact ⟨0,A3,c3,Nat.zero_le _,rfl,rfl,hM.out⟩
    case round =>
     clear hM k1 k2 hx hbw hmc hcc
     obtain ⟨j,A5,c5,hj,rfl,rfl,hM⟩:=hrel
     obtain ⟨b',off',x,he,hbw,k1,k2,hx⟩:=((HV.out).keep hM.out.2).at_ HS.out
     injection he with he
     injection he with he1 he2
     subst he1 he2
     rw [HK.out] at k1
     obtain ⟨B,cc,rfl,hmc,hcc,-,-⟩:=hx.open_
     by_cases hjl:j<s.2.length
     ·obtain ⟨b2,off2,y,rfl,hb2,hy,hy32,hcy⟩:=hx.at_ hjl
      have HY:=hid (take_snoc hy)
      have hpl:=putsS_len (normS (p.take i)) (s.2.take j)
      have hj2:(s.2.take j).length≤j:=List.length_take_le j s.2
      have C:=hid (CP.out _ _ y wr (SegsF.of_own hM.out.1) hM.out.2.size (by have:=HSL.out;have:=HNL.out;omega) hy32)
      clear hy hpl hj2
      go_wp2_with (go_at_call 170;refine (C.out).mono ?_;rintro e w1 ⟨v1,rfl,hs1,hb1⟩;obtain ⟨A6,c6,rfl⟩:=hs1.form)
      go_roundw
      case rel=>exact ⟨j+1,A6,c6,by omega,by go_num,by rw [HY.out,putsS_snoc],by rw [HY.out,putsS_snoc];exact hM.out.gives hs1 hb1⟩
      case measure=>simp [intOf];omega
     ·have HJ:=hid (show s.2.take j=s.2 from List.take_of_length_le (by omega))
      have t21:((2:Int) == 1)=false:=rfl
      go_wp2
      go_roundw
      case rel=>exact ⟨i+1,A5,c5,by omega,by go_num,by rw [HN.out,HJ.out],by have:=hM.out;rw [HJ.out] at this;rw [HN.out,HJ.out];exact this⟩
      case measure=>simp [intOf];omega
   ·by_cases hk1:s.1=1∧s.2≠[]
    ·have HN:=hid (norm_set hs hk1.1 hk1.2)
     rw [hk1.1] at k1
     have hm0:0<s.2.length:=List.length_pos_iff.2 hk1.2
     have C0:=CS.out _ s.2 wr hx hsl
     obtain ⟨S,hS⟩:∃ S,S=setOf s.2:=⟨_,rfl⟩
     have hSb:∀ y∈S,y<4294967296:=fun y hy=>hx.2 y ((mem_setOf _ y).1 (hS ▸ hy))
     have HSb:=hid hSb
     rw [← hS] at HN C0
     have hPl:(normS (p.take i)).length≤50000:=by omega
     generalize normS (p.take i)=P at hM HN hPl
     obtain ⟨⟨q,hown,hq,ha,hfq⟩,hbm⟩:=hM.out
     have HFQ:=hid hfq
     obtain ⟨L,hL⟩:∃ L,L=P.length:=⟨_,rfl⟩
     rw [← hL] at hown hPl ha ⊢
     have HL:=hid hL
     have HQ:=hid hq
     have HA:=hid ha
     have HBM:=hid hbm
     obtain ⟨M,hMM⟩:∃ M,M=S.length:=⟨_,rfl⟩
     have C:=hid (show Calls Tryz.prog 154 #[.slice B s.2.length cc] wr (fun e w'=>∃ A1 c1,e=.returned (.slice A1 M c1)∧Hid (w'.ownsRow wr.heap.size 22 1 (.slice A1 M c1) M (S.map fun n:Nat=>Value.int .u32 n)∧U32s w' (.slice A1 M c1) S∧Below wr.heap.size wr w')) from C0.mono fun e w' ⟨v1,he,ho,hb⟩=>by
      rw [← hMM] at ho
      obtain ⟨A1,c1,rfl⟩:=own_form ho
      exact ⟨A1,c1,he,ho,U32s.of_own (base:=wr.heap.size) (e:=22) (by rw [← hMM];exact ho) hSb,hb⟩)
     clear hs hk2 hk1 hsb hbl hnl C0 hS hSb hL hq ha hbm hM hMM hfq
     have t12:((1:Int) == 2)=false:=rfl
     go_wp2_with (first | (go_at_call 154;refine (C.out).mono ?_;rintro e w1 ⟨A1,c1,rfl,ho⟩;have hown1:=own_keep hown ho.out.2.2;have hsz:=ho.out.2.2.size) | (at_builtin;refine wpList_append_row rfl (.tmp 54) (.tmp 62) rfl E1 w.heap.size _ L _ rfl (hown1.alloc _) _ 1 [.int .i64 1,.slice A1 M c1] rfl (row_seg_at _ _ _ _ rfl) (ones_two _ _ _ _) (by unfold maxLen;omega) (by omega) (by have:=HBM.out.size;simp;omega) (L+1) rfl ?_;intro A6 c6 w6 hown6 hg6 hat6 hb6))
     go_roundw
     case rel=>exact ⟨i+1,A6,c6,by omega,by go_num,by rw [HN.out,List.length_append,← HL.out];rfl,by
      rw [HN.out]
      have h7:Below w.heap.size w w6:=((HBM.out.trans (ho.out.2.2.mono HBM.out.size)).alloc (by have:=HBM.out.size;have:=ho.out.2.2.size;omega) _).trans hb6
      exact ⟨set_endF HL.out hown HQ.out HA.out HFQ.out HBM.out.size ho.out.2.2 ho.out.1 ho.out.2.1 hown6 hg6 hat6,h7⟩⟩
     case measure=>simp [intOf];omega
    ·have HN:=hid (norm_none hs hk2 hk1)
     have t2:((s.1:Int) == 2)=false:=by simpa using hk2
     by_cases h1:s.1=1
     ·have h0:s.2.length=0:=by
       rcases Nat.eq_zero_or_pos s.2.length with h | h
       ·exact h
       ·exact absurd ⟨h1,List.length_pos_iff.1 h⟩ hk1
      rw [h0] at k2
      rw [h1] at k1
      have t12:((1:Int) == 2)=false:=rfl
      clear hs hk2 hk1 h1 h0 t2 hsb hbl
      go_wp2
      go_roundw
      case rel=>exact ⟨i+1,A3,c3,by omega,by go_num,by rw [HN.out],by rw [HN.out];exact hM.out⟩
      case measure=>simp [intOf];omega
     ·have t1:((s.1:Int) == 1)=false:=by simpa using h1
      clear hs hk2 hk1 h1 hsb hbl
      go_wp2
      go_roundw
      case rel=>exact ⟨i+1,A3,c3,by omega,by go_num,by rw [HN.out],by rw [HN.out];exact hM.out⟩
      case measure=>simp [intOf];omega
  ·have HK:=hid (show p.take i=p from List.take_of_length_le (by omega))
   go_wp2
   go_ret
   exact ⟨_,rfl,by have:=hM.out;rw [HK.out] at this;exact ⟨by rw [HK.out];exact this.1,this.2⟩⟩
end Seg
namespace Seg
open Go.RowKit Mem Rise Nums Segm
end Seg
end Go.Proofs.YtjfmompgkkdliaaGreatDoor
