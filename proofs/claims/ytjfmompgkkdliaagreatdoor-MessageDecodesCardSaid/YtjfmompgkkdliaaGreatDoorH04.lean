/- Part of the proof. -/
import Derived.Test.YtjfmompgkkdliaaGreatDoorH03
import Derived.Lib.SliceRun
import Derived.IntWalk
import Derived.Test.YtjfmompgkkdliaaGreatDoorH02
import Derived.Lib.Hide
import Derived.Deep.RegionHeld3
import Derived.BigQuiet
open Go.Lib (hid)
set_option maxRecDepth 100000
set_option maxHeartbeats 40000000
namespace Go.Proofs.YtjfmompgkkdliaaGreatDoor
namespace Oct
open Go.RowKit Mem Ahead
def Gives8 (l:List Nat) (w:World) (e:Ending) (w':World):Prop :=
 ∃ A c,e=.returned (.slice A l.length c)∧w'.ownsRow w.heap.size 5 1 (.slice A l.length c) l.length (cells8 l)∧Below w.heap.size w w'
theorem own_nil8 (w:World) (base:Nat):w.ownsRow base 5 1 (.slice none 0 0) 0 (cells8 []):=⟨rfl,.inl ⟨rfl,rfl⟩⟩
theorem clone_any (v:Value) (l:List Nat) (w:World) (hv:U8s w v l) (hl:l.length≤1000000):Calls Tryz.prog 38 #[v] w (Gives8 l w):=by
 obtain ⟨i0,E0⟩:=elem8
 obtain ⟨A,c,rfl,hlc,hc⟩:=hv.form
 have HV:=hid hv
 have h0:(w.alloc (.cells #[] 5)).ownsRow w.heap.size 5 1 (.slice (some ⟨w.heap.size,0,none⟩) 0 0) 0 (cells8 []):=own_blk (Nat.le_refl _) (heap_alloc_new _ _)
 have H0:=hid h0
 have HR:=hid ((hv.keep ((Below.refl _ w).alloc (Nat.le_refl _) (.cells #[] 5))).1)
 have HB:=hid (Below.refl w.heap.size w)
 have q8:∀ (W:World) (a:Option Addr) (n c n' c':Nat),(binOp .eql 32 (.slice a n c) (.slice none n' c')).run Tryz.prog W=.ok (.bool a.isNone) W:=fun W a n c n' c'=>Lib.run_eql_slice_nil W _ _ a n c n' c' Tryz.underlying32
 clear hv h0
 cases A with
 | none =>
  obtain rfl:l=[]:=by
   obtain ⟨⟨_,_,_,e,_,_,hr⟩,_⟩:=HV.out
   injection e with e1 e2 e3
   subst e1
   rcases Nat.eq_zero_or_pos l.length with h | h
   ·exact List.eq_nil_of_length_eq_zero h
   ·obtain ⟨_,_,h0,_⟩:=hr h
    cases h0
  go_enter Tryz.func38,Tryz.ntmps38
  go_wp2
  go_ret
  exact ⟨none,0,rfl,own_nil8 _ _,HB.out⟩
 | some ad =>
  go_enter Tryz.func38,Tryz.ntmps38
  go_wp2_with (at_builtin;refine wpList_append_row rfl (.tmp 5) (.tmp 6) rfl E0 w.heap.size _ 0 _ rfl H0.out _ l.length (cells8 l) rfl HR.out (ones8 _) (by unfold maxLen;omega) (by omega) (by simp) (l.length) (Nat.zero_add _) ?_;intro A1 c1 w1 hown1 hg1 hat1 hb1;have HO:=hid hown1;have HB1:=hid hb1;clear hown1 hg1 hat1 hb1)
  go_ret
  refine ⟨_,_,rfl,HO.out,?_⟩
  exact ((Below.refl _ w).alloc (Nat.le_refl _) _).trans HB1.out
def NewF (l:List Nat) (w:World) (e:Ending) (w':World):Prop :=
 ∃ b,e=.returned (.pointer (some ⟨b,0,none⟩))∧R w' w.heap.size w'.heap.size (.pointer (some ⟨b,0,none⟩)) l false (fun k=>k=b)∧Below w.heap.size w w'
theorem new_of {l:List Nat} {w w1:World} {A:Option Addr} {c:Nat} (hl:Small l) (ho:w1.ownsRow w.heap.size 5 1 (.slice A l.length c) l.length (cells8 l)) (hb:Below w.heap.size w w1) :
  NewF l w (.returned (.pointer (some ⟨w1.heap.size,0,none⟩))) (w1.alloc (.cells #[.slice A l.length c,.bool false] 151)):=by
 have hb1:Below w1.heap.size w1 (w1.alloc (.cells #[.slice A l.length c,.bool false] 151)):=(Below.refl _ w1).alloc (Nat.le_refl _) _
 have hsz:(w1.alloc (.cells #[.slice A l.length c,.bool false] 151)).heap.size=w1.heap.size+1:=by simp
 refine ⟨w1.heap.size,rfl,.inr ⟨w1.heap.size,_,rfl,hb.size,by rw [hsz];omega,Nat.le_refl _,heap_alloc_new _ _,(U8s.of_own ho hl).keep hb1,fun g hg=>?_,(fun h=>by cases h),rfl⟩,hb.trans (hb1.mono hb.size)⟩
 have:=(ho.lt g hg).2
 rw [hsz]
 exact ⟨by omega,by omega⟩
def NewL (l:List Nat) (w:World) (e:Ending) (w':World):Prop :=
 ∃ b,e=.returned (.pointer (some ⟨b,0,none⟩))∧(R w' w.heap.size w'.heap.size (.pointer (some ⟨b,0,none⟩)) l false (fun k=>k=b)∧Below w.heap.size w w')∧From w' (.pointer (some ⟨b,0,none⟩)) w.heap.size
theorem newl_of {l:List Nat} {w w1:World} {A:Option Addr} {c:Nat} (hl:Small l) (ho:w1.ownsRow w.heap.size 5 1 (.slice A l.length c) l.length (cells8 l)) (hb:Below w.heap.size w w1) :
  NewL l w (.returned (.pointer (some ⟨w1.heap.size,0,none⟩))) (w1.alloc (.cells #[.slice A l.length c,.bool false] 151)):=by
 obtain ⟨b,e,h1,h2⟩:=new_of hl ho hb
 injection e with e
 injection e with e
 injection e with e
 injection e with e _ _
 subst e
 exact ⟨_,rfl,⟨h1,h2⟩,_,_,false,rfl,heap_alloc_new _ _,fun g hg=>(ho.lt g hg).1⟩
theorem new_from (v:Value) (l:List Nat) (w:World) (hv:U8s w v l) (hl:l.length≤1000000):Calls Tryz.prog 81 #[v] w (NewL l w):=by
 have CC:=hid (clone_any v l w hv hl)
 have HS:=hid hv.2
 clear hv
 go_enter Tryz.func81,Tryz.ntmps81
 go_wp2_with (go_at_call 38;refine CC.out.mono ?_;rintro e w1 ⟨A,c,rfl,ho,hb⟩;have H1:=hid (newl_of HS.out ho hb);clear ho hb)
 go_ret
 exact H1.out
theorem new_any (v:Value) (l:List Nat) (w:World) (hv:U8s w v l) (hl:l.length≤1000000):Calls Tryz.prog 81 #[v] w (NewF l w):=(new_from v l w hv hl).mono fun _ _ ⟨b,h1,h2,_⟩=>⟨b,h1,h2⟩
theorem bytes_any (v:Value) (l:List Nat) (m:Nat) (w:World) (hv:U8s w v l) (hm:m≤1000000):Calls Tryz.prog 19 #[v,.int .i64 m] w (Gives8 (l.take m) w):=by
 obtain ⟨i0,E0⟩:=elem8
 obtain ⟨A,c,rfl,hlc,hc⟩:=hv.form
 have HV:=hid hv
 have h0:(w.alloc (.cells #[] 5)).ownsRow w.heap.size 5 1 (.slice (some ⟨w.heap.size,0,none⟩) 0 0) 0 (cells8 []):=own_blk (Nat.le_refl _) (heap_alloc_new _ _)
 have H0:=hid h0
 have hb:Below w.heap.size w (w.alloc (.cells #[] 5)):=(Below.refl _ w).alloc (Nat.le_refl _) _
 have HBB:=hid hb
 by_cases hlt:m<l.length
 ·have z0:(0:Int)≤(m:Int):=by omega
  have z1:(m:Int)<(l.length:Int):=by omega
  have z2:(m:Int)≤(c:Int):=by omega
  have e1:(l.take m).length=m:=by rw [List.length_take];omega
  have hp:=((hv.keep hb).prefix_ (k:=m) (d:=c) (by omega) (by omega) (by unfold maxLen;omega)).1
  rw [e1] at hp
  have HP:=hid hp
  have HE:=hid e1
  clear hv h0 hb hp e1
  go_enter Tryz.func19,Tryz.ntmps19
  go_wp2_with (at_builtin;refine wpList_append_row rfl (.tmp 12) (.tmp 13) rfl E0 w.heap.size _ 0 _ rfl H0.out _ m (cells8 (l.take m)) rfl HP.out (ones8 _) (by unfold maxLen;omega) (by omega) (by simp) (m) (Nat.zero_add _) ?_;intro A1 c1 w1 hown1 hg1 hat1 hb1;have HO:=hid hown1;have HB1:=hid hb1;clear hown1 hg1 hat1 hb1)
  go_ret
  refine ⟨_,_,by rw [HE.out];rfl,by rw [HE.out];exact HO.out,HBB.out.trans HB1.out⟩
 ·have z1:(l.length:Int)≤(m:Int):=by omega
  have HE:=hid (List.take_of_length_le (show l.length≤m by omega))
  have HP:=hid (hv.keep hb).1
  clear hv h0 hb
  go_enter Tryz.func19,Tryz.ntmps19
  go_wp2_with (at_builtin;refine wpList_append_row rfl (.tmp 12) (.tmp 13) rfl E0 w.heap.size _ 0 _ rfl H0.out _ l.length (cells8 l) rfl HP.out (ones8 _) (by unfold maxLen;omega) (by omega) (by simp) (l.length) (Nat.zero_add _) ?_;intro A1 c1 w1 hown1 hg1 hat1 hb1;have HO:=hid hown1;have HB1:=hid hb1;clear hown1 hg1 hat1 hb1)
  go_ret
  refine ⟨_,_,by rw [HE.out];rfl,by rw [HE.out];exact HO.out,HBB.out.trans HB1.out⟩
theorem num_any (v:Value) (l:List Nat) (w:World) (hv:U8s w v l) (hl:l.length≤4):Calls Tryz.prog 95 #[v] w (Tells (.int .u32 (val l)) w):=by
 obtain ⟨A,c,rfl,hlc,hc⟩:=hv.form
 have HU:=hid hv
 clear hv
 go_enter Tryz.func95,Tryz.ntmps95
 go_wp2
 go_loopw [3,4] (fun v3 v4 wx=>∃ j:Nat,j≤l.length∧v4=.int .i64 j∧v3=.int .u32 (val (l.take j))∧wx=w) (fun _ v4 _=>l.length - (intOf v4).toNat)
 case atStart=>exact ⟨0,Nat.zero_le _,rfl,rfl,rfl⟩
 case round =>
  obtain ⟨j,hj,rfl,rfl,rfl⟩:=hrel
  by_cases hlt:j<l.length
  ·obtain ⟨b,off,x,rfl,hbl,hx,hx2,hc⟩:=(HU.out).at_ hlt
   have z0:(0:Int)≤(j:Int):=by omega
   have z1:(j:Int)<(l.length:Int):=by omega
   have hv:=val_lt j HU.out.2
   have hv2:=Nat.lt_of_lt_of_le hv (pow_le (show j≤3 by omega))
   have HV:=hid (val_take hx)
   clear hv hx
   generalize val (l.take j)=V at hv2 HV ⊢
   go_wp2
   go_roundw
   case rel=>exact ⟨j+1,hlt,by go_num,by rw [HV.out];go_num,trivial⟩
   case measure=>simp [intOf];omega
  ·obtain rfl:j=l.length:=by omega
   go_wp2
   go_ret
   rw [List.take_length]
   exact ⟨rfl,Below.refl _ _⟩
end Oct
namespace Oct
open Go.RowKit Mem Ahead
def big (n:Nat):Nat→List Nat
 | 0=>[]
 | k+1=>n / 256 ^ k % 256 :: big n k
theorem big_len (n:Nat):∀ k,(big n k).length=k
 | 0=>rfl
 | k+1=>by simp [big,big_len n k]
end Oct
namespace Oct
open Go.RowKit Mem Ahead
def Wr (W:World) (base:Nat) (v:Value) (l:List Nat) (F:Nat→Prop):Prop :=
 ∃ b s,v=.pointer (some ⟨b,0,none⟩)∧base≤b∧W.heap[b]?=some (.cells #[s] 97)∧W.ownsRow base 5 1 s l.length (cells8 l)∧Small l∧s.ownBlock≠some b∧F=fun k=>k=b∨s.ownBlock=some k
def Grow (F F':Nat→Prop) (W:World):Prop:=∀ k,F' k→F k∨W.heap.size≤k
theorem Wr.lt {W:World} {base:Nat} {v:Value} {l:List Nat} {F:Nat→Prop} (h:Wr W base v l F):∀ k,F k→base≤k∧k<W.heap.size:=by
 obtain ⟨b,s,rfl,h2,h3,h4,h5,h6,rfl⟩:=h
 rintro k (rfl | hk)
 ·exact ⟨h2,(Array.getElem?_eq_some_iff.1 h3).1⟩
 ·exact h4.lt k hk
theorem own_same {W W':World} {base:Nat} {e:TypeId} {v:Value} {n:Nat} {xs:List Value} (h:W.ownsRow base e 1 v n xs) (hk:∀ g,v.ownBlock=some g→W'.heap[g]?=W.heap[g]?):W'.ownsRow base e 1 v n xs:=by
 obtain ⟨h1,h2⟩:=h
 refine ⟨h1,?_⟩
 rcases h2 with h2 | ⟨g,cap,cur,hv,hg,hh,r⟩
 ·exact .inl h2
 ·exact .inr ⟨g,cap,cur,hv,hg,(hk g (by rw [hv];rfl)).trans hh,r⟩
theorem Wr.keep {W W':World} {base:Nat} {v:Value} {l:List Nat} {F:Nat→Prop} (h:Wr W base v l F) (hk:∀ k,F k→W'.heap[k]?=W.heap[k]?):Wr W' base v l F:=by
 obtain ⟨b,s,h1,h2,h3,h4,h5,h6,rfl⟩:=h
 exact ⟨b,s,h1,h2,(hk b (.inl rfl)).trans h3,own_same h4 (fun g hg=>hk g (.inr hg)),h5,h6,rfl⟩
theorem Wr.below {W W':World} {base:Nat} {v:Value} {l:List Nat} {F:Nat→Prop} (h:Wr W base v l F) (hb:Below W.heap.size W W'):Wr W' base v l F :=
 h.keep fun k hk=>hb.block k (h.lt k hk).2
theorem cell1 {W:World} {b:Nat} {x:Value} {t:TypeId} (h:W.heap[b]?=some (.cells #[x] t)):W.cell? ⟨b,0,none⟩=some x∧W.frozen? ⟨b,0,none⟩=false:=by
 simp [World.cell?,World.frozen?,h]
def AddF (base:Nat) (v x:Value) (l:List Nat) (F:Nat→Prop) (w:World) (e:Ending) (w':World):Prop :=
 ∃ F',e=.returned x∧Wr w' base v l F'∧Only F w w'∧Grow F F' w
theorem add_end {base b:Nat} {s:Value} {A1:Option Addr} {c1:Nat} {l m:List Nat} {w w1 W:World} (hb0:base≤b) (h3:w.heap[b]?=some (.cells #[s] 97)) (h6:s.ownBlock≠some b) (hl:Small l) (hm:Small m)
  (hown:w1.ownsRow base 5 1 (.slice A1 (l ++ m).length c1) (l ++ m).length (cells8 l ++ cells8 m)) (hg:w.grownBy w1 s.ownBlock) (hat:(Value.slice A1 (l ++ m).length c1).ownBlock=s.ownBlock∨(Value.slice A1 (l ++ m).length c1).ownBlock=some w.heap.size)
  (hW:W=w1.setCell ⟨b,0,none⟩ (.slice A1 (l ++ m).length c1)) :
  AddF base (.pointer (some ⟨b,0,none⟩)) (.pointer (some ⟨b,0,none⟩)) (l ++ m) (fun k=>k=b∨s.ownBlock=some k) w (.returned (.pointer (some ⟨b,0,none⟩))) W:=by
 subst hW
 have hlt:b<w.heap.size:=(Array.getElem?_eq_some_iff.1 h3).1
 have hb1:w1.heap[b]?=some (.cells #[s] 97):=(hg.block b hlt (fun e=>h6 e.symm)).trans h3
 have hne:(Value.slice A1 (l ++ m).length c1).ownBlock≠some b:=by
  rcases hat with h | h
  ·rw [h];exact h6
  ·rw [h];intro e;injection e with e;omega
 have ho1:Only (fun k=>k=b∨s.ownBlock=some k) w w1:=⟨hg.os,hg.tape,hg.output,hg.size,fun k hk hf=>hg.block k hk (fun e=>hf (.inr e.symm))⟩
 refine ⟨fun k=>k=b∨(Value.slice A1 (l ++ m).length c1).ownBlock=some k,rfl,⟨b,_,rfl,hb0,one_setCell hb1,?_,hl.append hm,hne,rfl⟩,ho1.set (.inl rfl) _,fun k hk=>?_⟩
 ·rw [cells8_append]
  exact own_same hown fun g hg=>Below.heap_setCell _ _ _ _ (fun e=>hne (by rw [hg,e]))
 ·rcases hk with rfl | hk
  ·exact .inl (.inl rfl)
  ·rcases hat with h | h
   ·exact .inl (.inr (h ▸ hk))
   ·rw [hk] at h
    injection h with h
    exact .inr (by omega)
theorem add_any (v x:Value) (base:Nat) (l m:List Nat) (F:Nat→Prop) (w:World) (hW:Wr w base v l F) (hx:U8s w x m) (hlen:l.length+m.length≤1000000) (hbase:base≤w.heap.size) :
  Calls Tryz.prog 108 #[v,x] w (AddF base v v (l ++ m) F w):=by
 obtain ⟨i0,E0⟩:=elem8
 obtain ⟨b,s,rfl,h2,h3,h4,h5,h6,rfl⟩:=hW
 obtain ⟨c0,f0⟩:=cell1 h3
 have hlt:b<w.heap.size:=(Array.getElem?_eq_some_iff.1 h3).1
 have H2:=hid h2
 have H3:=hid h3
 have H4:=hid h4
 have H5:=hid h5
 have H6:=hid h6
 have HX:=hid hx
 have HN:=hid (show (l ++ m).length=l.length+m.length from List.length_append)
 have HEND:=hid (fun A1 c1 w1 W=>@add_end base b s A1 c1 l m w w1 W h2 h3 h6 h5 hx.2)
 clear h2 h3 h4 h5 h6 hx
 generalize (l ++ m).length=N at HN HEND
 go_enter Tryz.func108,Tryz.ntmps108
 go_wp2_with (at_builtin;refine wpList_append_row rfl (.tmp 11) (.tmp 12) rfl E0 base s l.length _ rfl H4.out x m.length _ rfl HX.out.1 (ones8 _) (by unfold maxLen;omega) (by omega) hbase N (HN.out.symm) ?_;intro A1 c1 w1 hown1 hg1 hat1 hb1;obtain ⟨c1',f1'⟩:=cell1 ((hg1.block b hlt (fun e=>H6.out e.symm)).trans H3.out);have HE:=hid (HEND.out A1 c1 w1 _ hown1 hg1 hat1 rfl);clear hown1 hg1 hat1 hb1)
 go_ret
 exact HE.out
end Oct
namespace Oct
open Go.RowKit Mem Ahead
theorem lit8 (w:World) (l:List Nat) (C:Array Value) (n:Nat) (hl:Small l) (hC:C.toList=cells8 l) (hn:n=l.length) (hm:n≤1000000):U8s (w.alloc (.cells C 5)) (.slice (some ⟨w.heap.size,0,none⟩) n n) l:=by
 subst hn
 have hs:C.size=l.length:=by rw [← Array.length_toList,hC,cells8_len]
 exact U8s.of_own (base:=0) (e:=5) ⟨by rw [cells8_len,Nat.mul_one],.inr ⟨w.heap.size,l.length,C,rfl,Nat.zero_le _,heap_alloc_new _ _,Nat.le_refl _,by unfold maxLen;omega,by rw [hs,Nat.mul_one],by rw [hC,Nat.mul_one,List.take_of_length_le (by rw [cells8_len];exact Nat.le_refl _)]⟩⟩ hl
def lo8 (n:Int):Nat:=(n % 256).toNat
theorem lo8_lt (n:Int):lo8 n<256:=by unfold lo8;omega
theorem wrap_lo8 (n:Int):IntKind.u8.wrap n=(lo8 n:Int):=by rw [IntKind.wrap_u8];unfold lo8;omega
theorem AddF.from {base:Nat} {v x:Value} {l:List Nat} {F:Nat→Prop} {w w1 w':World} {e:Ending} (hb:Below w.heap.size w w1) (h:AddF base v x l F w1 e w'):AddF base v x l F w e w':=by
 obtain ⟨F',he,hW,ho,hg⟩:=h
 exact ⟨F',he,hW,(Only.of hb).trans ho,fun k hk=>(hg k hk).imp id (fun h=>Nat.le_trans hb.size h)⟩
theorem w8_put (v:Value) (base:Nat) (l:List Nat) (F:Nat→Prop) (n:Int) (w:World) (hW:Wr w base v l F) (hlen:l.length≤900000) (hbase:base≤w.heap.size) :
  Calls Tryz.prog 62 #[v,.int .i64 n] w (AddF base v v (l ++ [lo8 n]) F w):=by
 have ha:lo8 n<256:=lo8_lt _
 have wa:=wrap_lo8 n
 generalize lo8 n=a at ha wa ⊢
 have hbl:Below w.heap.size w (w.alloc (.cells #[.int .u8 (a:Nat)] 5)):=(Below.refl _ w).alloc (Nat.le_refl _) _
 have CA:=hid ((add_any v _ base l [a] F _ (hW.below hbl) (lit8 w [a] #[.int .u8 (a:Nat)] 1 (fun y hy=>by simp at hy;omega) rfl rfl (by omega)) (by simp;omega) (Nat.le_trans hbase hbl.size)).mono fun e w' h=>h.from hbl)
 clear hbl hW ha
 go_enter Tryz.func62,Tryz.ntmps62
 go_wp2_with (go_at_call 108;refine (CA.out).mono ?_;rintro e w1 ⟨F1,rfl,h⟩;have H1:=hid h;clear h)
 go_ret
 exact ⟨F1,rfl,H1.out⟩
theorem w16_put (v:Value) (base:Nat) (l:List Nat) (F:Nat→Prop) (n:Int) (w:World) (hW:Wr w base v l F) (hlen:l.length≤900000) (hbase:base≤w.heap.size) :
  Calls Tryz.prog 61 #[v,.int .i64 n] w (AddF base v v (l ++ [lo8 (n / 256),lo8 n]) F w):=by
 have ha:lo8 (n / 256)<256:=lo8_lt _
 have wa:=wrap_lo8 (n / 256)
 have hb:lo8 n<256:=lo8_lt _
 have wb:=wrap_lo8 n
 generalize lo8 (n / 256)=a at ha wa ⊢
 generalize lo8 n=b at hb wb ⊢
 have hbl:Below w.heap.size w (w.alloc (.cells #[.int .u8 (a:Nat),.int .u8 (b:Nat)] 5)):=(Below.refl _ w).alloc (Nat.le_refl _) _
 have CA:=hid ((add_any v _ base l [a,b] F _ (hW.below hbl) (lit8 w [a,b] #[.int .u8 (a:Nat),.int .u8 (b:Nat)] 2 (fun y hy=>by simp at hy;omega) rfl rfl (by omega)) (by simp;omega) (Nat.le_trans hbase hbl.size)).mono fun e w' h=>h.from hbl)
 clear hbl hW ha hb
 go_enter Tryz.func61,Tryz.ntmps61
 go_wp2_with (go_at_call 108;refine (CA.out).mono ?_;rintro e w1 ⟨F1,rfl,h⟩;have H1:=hid h;clear h)
 go_ret
 exact ⟨F1,rfl,H1.out⟩
end Oct
namespace Oct
open Go.RowKit Mem Ahead
theorem put_any (v x:Value) (base:Nat) (l m:List Nat) (F:Nat→Prop) (w:World) (hW:Wr w base v l F) (hx:U8s w x m) (hlen:l.length+m.length≤1000000) (hbase:base≤w.heap.size) :
  Calls Tryz.prog 59 #[v,x] w (AddF base v v (l ++ m) F w):=by
 have CA:=hid (add_any v x base l m F w hW hx hlen hbase)
 clear hW hx
 go_enter Tryz.func59,Tryz.ntmps59
 go_wp2_with (go_at_call 108;refine (CA.out).mono ?_;rintro e w1 ⟨F1,rfl,h⟩;have H1:=hid h;clear h)
 go_ret
 exact ⟨F1,rfl,H1.out⟩
theorem wbytes_any (v:Value) (base:Nat) (l:List Nat) (F:Nat→Prop) (w:World) (hW:Wr w base v l F) (hlen:l.length≤1000000):Calls Tryz.prog 63 #[v] w (Gives8 l w):=by
 obtain ⟨b,s,rfl,h2,h3,h4,h5,h6,rfl⟩:=hW
 obtain ⟨c0,f0⟩:=cell1 h3
 have CC:=hid (clone_any s l w (U8s.of_own h4 h5) hlen)
 clear h2 h3 h4 h5 h6
 go_enter Tryz.func63,Tryz.ntmps63
 go_wp2_with (go_at_call 38;refine (CC.out).mono ?_;rintro e w1 ⟨A,c,rfl,h⟩;have H1:=hid h;clear h)
 go_ret
 exact ⟨A,c,rfl,H1.out⟩
theorem two_puts {base:Nat} {v x:Value} {L:List Nat} {F:Nat→Prop} {w w1 w2:World} (F1 F2:Nat→Prop) (k1:Wr w2 base v L F2) (h2:Only F w w1) (h3:Grow F F1 w) {l:List Nat} (_h1:Wr w1 base v l F1) (k2:Only F1 w1 w2) (k3:Grow F1 F2 w1) :
  AddF base v x L F w (.returned x) w2:=by
 refine ⟨F2,rfl,k1,⟨k2.os.trans h2.os,k2.tape.trans h2.tape,k2.output.trans h2.output,Nat.le_trans h2.size k2.size,fun k hk hf=>?_⟩,fun k hk=>?_⟩
 ·refine (k2.block k (Nat.lt_of_lt_of_le hk h2.size) (fun h=>?_)).trans (h2.block k hk hf)
  rcases h3 k h with h | h
  ·exact hf h
  ·omega
 ·rcases k3 k hk with h | h
  ·exact h3 k h
  ·exact .inr (Nat.le_trans h2.size h)
def sizedS (m:List Nat):List Nat:=if m.length≤255 then [lo8 (m.length:Int)] ++ m else []
def longS (m:List Nat):List Nat:=if m.length≤65535 then [lo8 ((m.length:Int) / 256),lo8 (m.length:Int)] ++ m else []
end Oct
namespace Oct
open Go.RowKit Mem Ahead
theorem wr_zero (w:World) {base:Nat} (hb:base≤w.heap.size):Wr (w.alloc (.cells #[.slice none 0 0] 97)) base (.pointer (some ⟨w.heap.size,0,none⟩)) [] (fun k=>k=w.heap.size):=by
 refine ⟨w.heap.size,.slice none 0 0,rfl,hb,heap_alloc_new _ _,own_nil8 _ _,small_nil,(fun h=>by cases h),?_⟩
 funext k
 simp [Value.ownBlock]
end Oct
namespace Oct
open Go.RowKit Mem Ahead
theorem big2 (n:Nat):big n 2=[n / 256 % 256,n % 256]:=by simp [big]
end Oct
namespace Opn
open Oct Att
structure Op where
 an:Nat
 hold:Int
 ri:Nat
 four:Bool
def Op.ok (o:Op):Prop:=o.an<4294967296∧(Lit.int .i64 o.hold).wf=true∧o.ri<4294967296
def zeroO:Op:=⟨0,0,0,false⟩
def holdsB (n:Int):Bool:=decide (n=0) || (decide (2<n) && decide (n<65536))
def capsO:Nat→Op→List Nat→Option Op
 | 0,o,b=>if b=[] then some o else none
 | n+1,o,b=>match b with
  | []=>some o
  | c :: m :: r=>if m≤r.length then (if c=65 then (if m=4∧val (r.take m)≠0 then capsO n ⟨val (r.take m),o.hold,o.ri,true⟩ (r.drop m) else none) else capsO n o (r.drop m)) else none
  | _=>none
def parsO:Nat→Op→List Nat→Nat ⊕ Op
 | 0,o,b=>if b=[] then .inr o else .inl 0
 | n+1,o,b=>match b with
  | []=>.inr o
  | t :: m :: r=>if m≤r.length then (if t=2 then (match capsO m o (r.take m) with | some o2=>parsO n o2 (r.drop m) | none=>.inl 0) else .inl 4) else .inl 0
  | _=>.inl 0
def noO (s:Nat):No:=⟨2,s,if s=1 then [0,4] else []⟩
def headO (b:List Nat):Op:=⟨val ((b.drop 1).take 2),(val ((b.drop 3).take 2):Nat),val ((b.drop 5).take 4),false⟩
def decO (b:List Nat):Nat ⊕ Op :=
 if b.length<10 then .inl 0
 else if b[0]?≠some 4 then .inl 1
 else if (headO b).an=0 then .inl 2
 else if holdsB (headO b).hold=false then .inl 6
 else if (headO b).ri=0 then .inl 3
 else if b[9]?≠some (b.length - 10) then .inl 0
 else parsO (b.length - 10) (headO b) (b.drop 10)
def outO:Nat ⊕ Op→Op × No
 | .inl s=>(zeroO,noO s)
 | .inr o=>(o,⟨0,0,[]⟩)
theorem capsO_fuel:∀ (n m:Nat) (o:Op) (b:List Nat),b.length≤n→b.length≤m→capsO n o b=capsO m o b
 | 0,0,_,_,_,_=>rfl
 | 0,m+1,o,b,h,_=>by
  obtain rfl:=List.eq_nil_of_length_eq_zero (Nat.le_zero.1 h)
  rfl
 | n+1,0,o,b,_,h=>by
  obtain rfl:=List.eq_nil_of_length_eq_zero (Nat.le_zero.1 h)
  rfl
 | n+1,m+1,o,b,hn,hm=>by
  match b,hn,hm with
  | [],_,_=>rfl
  | [_],_,_=>rfl
  | c :: k :: r,hn,hm =>
   simp only [List.length_cons] at hn hm
   unfold capsO
   dsimp only
   have hd:(r.drop k).length≤r.length:=by rw [List.length_drop];omega
   rw [capsO_fuel n m _ (r.drop k) (by omega) (by omega),capsO_fuel n m o (r.drop k) (by omega) (by omega)]
theorem parsO_fuel:∀ (n m:Nat) (o:Op) (b:List Nat),b.length≤n→b.length≤m→parsO n o b=parsO m o b
 | 0,0,_,_,_,_=>rfl
 | 0,m+1,o,b,h,_=>by
  obtain rfl:=List.eq_nil_of_length_eq_zero (Nat.le_zero.1 h)
  rfl
 | n+1,0,o,b,_,h=>by
  obtain rfl:=List.eq_nil_of_length_eq_zero (Nat.le_zero.1 h)
  rfl
 | n+1,m+1,o,b,hn,hm=>by
  match b,hn,hm with
  | [],_,_=>rfl
  | [_],_,_=>rfl
  | c :: k :: r,hn,hm =>
   simp only [List.length_cons] at hn hm
   unfold parsO
   dsimp only
   have hd:(r.drop k).length≤r.length:=by rw [List.length_drop];omega
   have e:∀ o2,parsO n o2 (r.drop k)=parsO m o2 (r.drop k):=fun o2=>parsO_fuel n m o2 (r.drop k) (by omega) (by omega)
   simp only [e]
def caps (o:Op) (b:List Nat):Option Op:=capsO b.length o b
def pars (o:Op) (b:List Nat):Nat ⊕ Op:=parsO b.length o b
theorem caps_nil (o:Op):caps o []=some o:=rfl
theorem caps_one (o:Op) (x:Nat):caps o [x]=none:=rfl
theorem caps_step (o:Op) (c m:Nat) (r:List Nat):caps o (c :: m :: r)=if m≤r.length then (if c=65 then (if m=4∧val (r.take m)≠0 then caps ⟨val (r.take m),o.hold,o.ri,true⟩ (r.drop m) else none) else caps o (r.drop m)) else none:=by
 have hd:(r.drop m).length≤r.length:=by rw [List.length_drop];omega
 unfold caps
 show capsO (r.length+1+1) o _=_
 rw [capsO]
 rw [capsO_fuel (r.length+1) (r.drop m).length _ (r.drop m) (by omega) (Nat.le_refl _),capsO_fuel (r.length+1) (r.drop m).length o (r.drop m) (by omega) (Nat.le_refl _)]
theorem pars_nil (o:Op):pars o []=.inr o:=rfl
theorem pars_one (o:Op) (x:Nat):pars o [x]=.inl 0:=rfl
theorem pars_step (o:Op) (t m:Nat) (r:List Nat):pars o (t :: m :: r)=if m≤r.length then (if t=2 then (match caps o (r.take m) with | some o2=>pars o2 (r.drop m) | none=>.inl 0) else .inl 4) else .inl 0:=by
 have hd:(r.drop m).length≤r.length:=by rw [List.length_drop];omega
 unfold pars caps
 show parsO (r.length+1+1) o _=_
 rw [parsO]
 have e:∀ o2,parsO (r.length+1) o2 (r.drop m)=parsO (r.drop m).length o2 (r.drop m):=fun o2=>parsO_fuel _ _ o2 (r.drop m) (by omega) (Nat.le_refl _)
 by_cases hm:m≤r.length
 ·rw [if_pos hm,if_pos hm]
  by_cases ht:t=2
  ·rw [if_pos ht,if_pos ht,capsO_fuel m (r.take m).length o (r.take m) (by rw [List.length_take];omega) (Nat.le_refl _)]
   simp only [e]
  ·rw [if_neg ht,if_neg ht]
 ·rw [if_neg hm,if_neg hm]
theorem decO_is (b:List Nat):decO b=if b.length<10 then .inl 0 else if b[0]?≠some 4 then .inl 1 else if (headO b).an=0 then .inl 2 else if holdsB (headO b).hold=false then .inl 6 else if (headO b).ri=0 then .inl 3 else if b[9]?≠some (b.length - 10) then .inl 0 else pars (headO b) (b.drop 10):=by
 unfold decO pars
 rw [List.length_drop]
end Opn
namespace Oct
open Go.RowKit Mem Ahead
section
variable {base:Nat} {P v:Value} {l l' m k:List Nat} {F F':Nat→Prop} {W W':World}
end
end Oct
namespace Ntc
open Go.RowKit Mem Oct Att
def goodN (n:No):Bool:=decide (1≤n.code∧n.code≤255∧0≤n.sub∧n.sub≤255∧n.data.length≤4075)
def noN:No:=⟨0,0,[]⟩
end Ntc
namespace Frm
open Go.RowKit Mem Oct Att
open Go.Lib (hid)
theorem box_low (w:World) (x y z:Value):Below w.heap.size w (w.alloc (.cells #[x,y,z] 34)):=(Below.refl _ w).alloc (Nat.le_refl _) _
theorem add_at (b o i:Nat):(⟨b,o,none⟩:Addr).add i=⟨b,o+i,none⟩:=by unfold Addr.add;split <;> simp_all
theorem U8s.mid {w:World} {l:List Nat} {b off n c i k:Nat} (h:U8s w (.slice (some ⟨b,off,none⟩) n c) l) (hik:i+k≤l.length) (hc:i<c) :
  U8s w (.slice (some ⟨b,off+i,none⟩) k (c - i)) ((l.drop i).take k):=by
 obtain ⟨A,c',e,hl,hm⟩:=h.form
 injection e with e1 e2 e3
 subst e1 e2 e3
 have h1:=h.cut (k:=i) (by omega)
 rw [if_neg (by omega)] at h1
 have h2:U8s w (.slice (some ⟨b,off+i,none⟩) (l.length - i) (c - i)) (l.drop i):=by
  rw [Option.map_some,add_at] at h1
  exact h1
 exact h2.prefix_ (by rw [List.length_drop];omega) (by omega) (by unfold maxLen;omega)
theorem U8s.cell {w:World} {l:List Nat} {b off n c i:Nat} (h:U8s w (.slice (some ⟨b,off,none⟩) n c) l) (hi:i<l.length):∃ x,l[i]?=some x∧x<256∧w.cell? ⟨b,off+i,none⟩=some (.int .u8 x):=by
 obtain ⟨b',off',x,e,-,hx,hx2,hc⟩:=h.at_ hi
 injection e with e
 injection e with e1 e2
 subst e1 e2
 exact ⟨x,hx,hx2,hc⟩
def HeadF (n:No) (w:World) (e:Ending) (w':World):Prop :=
 ∃ A k c,e=.returned (.agg #[.int .i64 n.code,.int .i64 n.sub,.slice A k c])∧U8s w' (.slice A k c) n.data∧Below w.heap.size w w'
theorem head_end {w x:World} {a s:Value} {v:Value} {d:List Nat} (hX:Box3 x w.heap.size 34 (.int .i64 0) (.int .i64 0) (.slice none 0 0)) (hb:Below w.heap.size w x) (hU:U8s x v d) (o:Obj) :
  U8s ((three x w.heap.size a s v).alloc o) v d∧Below w.heap.size w ((three x w.heap.size a s v).alloc o):=by
 have ho:=three_off x w.heap.size a s v
 have h1:=three_low hb w.heap.size (Nat.le_refl _) a s v
 exact ⟨(u8_apart hU (hX.no8 (no8_i _) (no8_i _) (no8_s _ _ _)) ho.1 ho.2).keep ((Below.refl _ _).alloc (Nat.le_refl _) _),h1.alloc h1.size _⟩
theorem head_end2 {w x:World} {a s:Value} {v:Value} {d:List Nat} (hX:Box3 x w.heap.size 34 (.int .i64 0) (.int .i64 0) (.slice none 0 0)) (hb:Below w.heap.size w x) (hU:U8s x v d) (o o2:Obj) :
  U8s (((three x w.heap.size a s v).alloc o).alloc o2) v d∧Below w.heap.size w (((three x w.heap.size a s v).alloc o).alloc o2) :=
 have h:=head_end (a:=a) (s:=s) hX hb hU o
 ⟨h.1.keep ((Below.refl _ _).alloc (Nat.le_refl _) _),h.2.alloc h.2.size _⟩
theorem lenH_lt {l:List Nat} (h:Small l):lenH l<65536:=by
 unfold lenH
 have h1:=val_lt 2 (h.drop 16)
 exact h1
theorem head_any (b off c : Nat) (l : List Nat) (w : World) (hv : U8s w (.slice (some ⟨b, off, none⟩) 19 c) l) (hl : l.length = 19) : Calls Tryz.prog 99 #[.slice (some ⟨b, off, none⟩) 19 c] w (HeadF (headH l) w) := by
  have hc : 19 ≤ c ∧ c ≤ 9223372036854775807 := by
    obtain ⟨_,_,e,h1,h2⟩:=hv.form
    injection e with _ _ e
    rw [e];omega
  have HX:=hid (Box3.new w 34 (.int .i64 0) (.int .i64 0) (.slice none 0 0))
  have BB:=hid (box_low w (.int .i64 0) (.int .i64 0) (.slice none 0 0))
  have HV:=hid (hv.keep BB.out)
  obtain ⟨c0,c1,c2⟩:=HX.out.cells
  have ff:=HX.out.free
  have HL:=hid hl
  clear hv
  go_enter Tryz.func99,Tryz.ntmps99
  go_wp2
  go_loopw [3,7,8,9,10,11,12,13,14,15] (fun v3 _ _ _ _ _ _ _ _ _ wx=>∃ i:Nat,i≤16∧v3=.int .i64 i∧Hid ((l.take i).all (fun x=>decide (x=255))=true)∧wx=w.alloc (.cells #[.int .i64 0,.int .i64 0,.slice none 0 0] 34)) (fun v3 _ _ _ _ _ _ _ _ _ _=>16 - (intOf v3).toNat)
  case atStart=>exact ⟨0,Nat.zero_le _,rfl,hid rfl,rfl⟩
  case round =>
    obtain ⟨i,hi,rfl,HA,rfl⟩:=hrel
    by_cases hlt:i<16
    · obtain ⟨x, hx, hx2, hcell⟩ := U8s.cell HV.out (show i < l.length by have := HL.out; omega)
      have z0:(0:Int)≤(i:Int):=by omega
      have z1:(i:Int)<16:=by omega
      have z2:(i:Int)<19:=by omega
      have HI:=hid hx
      clear hx
      by_cases h255:x=255
      · subst h255
        go_wp2
        go_roundw
        case rel=>exact ⟨i+1,hlt,by go_num,hid (by rw [List.take_add_one,HI.out,List.all_append,HA.out];rfl),trivial⟩
        case measure=>simp [intOf];omega
      · have y : ((x : Int) != 255) = true := by simp; omega
        have HN := hid (show headH l = ⟨1, 1, []⟩ from by
          have h : (l.take 16).all (fun x => decide (x = 255)) = false := by
            rw [List.all_eq_false]
            exact ⟨x,List.mem_iff_getElem?.2 ⟨i,by rw [List.getElem?_take,if_pos hlt];exact HI.out⟩,by simpa using h255⟩
          unfold headH
          rw [if_pos h])
        clear h255
        go_wp2
        (try simp only [Exit.inBlock,Exit.then])
        refine bodyPost_ret (v:=.agg #[.int .i64 1,.int .i64 1,.slice none 0 0]) (by simp [results,Tryz.results99,go_sem]) rfl ?_
        rw [HN.out]
        exact ⟨none,0,0,rfl,U8s.nil _,box_low _ _ _ _⟩
    · obtain rfl : i = 16 := by omega
      obtain ⟨T,hT,hT2,c18⟩:=U8s.cell HV.out (show 18<l.length by have:=HL.out;omega)
      have HN:=hid (lenH_lt HV.out.2)
      have hm:=U8s.mid HV.out (i:=16) (k:=2) (by have:=HL.out;omega) (by omega)
      have hm1:=U8s.mid HV.out (i:=18) (k:=1) (by have:=HL.out;omega) (by omega)
      have CN:=hid (num_any _ _ _ hm (by rw [List.length_take];omega))
      have HM:=hid (And.intro hm hm1)
      have HT:=hid (show typH l=T by unfold typH;rw [hT];rfl)
      have HH:=hid (show headH l=if lenH l<19∨4096<lenH l then ⟨1,2,(l.drop 16).take 2⟩
  else if T<1∨4<T then ⟨1,3,(l.drop 18).take 1⟩
  else if lenH l<leastH T∨(T=4∧19<lenH l) then ⟨1,2,(l.drop 16).take 2⟩
  else noneF from by
        unfold headH
        rw [HT.out,if_neg (by rw [HA.out];decide)])
      have e2:((l.drop 16).take 2).length=2:=by rw [List.length_take,List.length_drop,HL.out];rfl
      have e1:((l.drop 18).take 1).length=1:=by rw [List.length_take,List.length_drop,HL.out];rfl
      have CN2:=hid (show Calls Tryz.prog 95 #[.slice (some ⟨b,off+16,none⟩) 2 (c - 16)] (w.alloc (.cells #[.int .i64 0,.int .i64 0,.slice none 0 0] 34)) (Tells (.int .u32 (lenH l)) _) from CN.out)
      have hL:=HN.out
      clear CN hm hm1 hT HA HN HT hlt hi
      generalize lenH l=N at CN2 HH hL
      have wo:IntKind.i64.wrap (N:Int)=(N:Int):=IntWalk.i64_in _ (by omega)
      have hc16:¬ c=16:=by omega
      have hc18:¬ c=18:=by omega
      have HE:=hid (And.intro e1 e2)
      clear e1 e2
      rcases Nat.lt_or_ge N 19 with h1 | h1
      focus
        have KB:=hid True.intro
        have z1:(N:Int)<19:=by omega
        have R:=hid (show headH l=⟨1,2,(l.drop 16).take 2⟩ by rw [HH.out];rw [if_pos (by omega)])
      rotate_left
      rcases Nat.lt_or_ge 4096 N with h2 | h2
      focus
        have KB:=hid True.intro
        have z1:(19:Int)≤N:=by omega
        have z2:(4096:Int)<N:=by omega
        have R:=hid (show headH l=⟨1,2,(l.drop 16).take 2⟩ by rw [HH.out];rw [if_pos (by omega)])
      rotate_left
      rcases Nat.lt_or_ge T 1 with h3 | h3
      focus
        have KT:=hid True.intro
        have z1:(19:Int)≤N:=by omega
        have z2:(N:Int)≤4096:=by omega
        have z3:(T:Int)<1:=by omega
        have R:=hid (show headH l=⟨1,3,(l.drop 18).take 1⟩ by rw [HH.out];rw [if_neg (by omega),if_pos (by omega)])
      rotate_left
      rcases Nat.lt_or_ge 4 T with h4 | h4
      focus
        have KT:=hid True.intro
        have z1:(19:Int)≤N:=by omega
        have z2:(N:Int)≤4096:=by omega
        have z3:(1:Int)≤T:=by omega
        have z4:(4:Int)<T:=by omega
        have R:=hid (show headH l=⟨1,3,(l.drop 18).take 1⟩ by rw [HH.out];rw [if_neg (by omega),if_pos (by omega)])
      rotate_left
      rcases (show T=1∨T=2∨T=3∨T=4 by omega) with rfl | rfl | rfl | rfl
      rcases Nat.lt_or_ge N 29 with h5 | h5
      focus
        have KD:=hid True.intro
        have z1:(19:Int)≤N:=by omega
        have z2:(N:Int)≤4096:=by omega
        have z3:(N:Int)<29:=by omega
        have R:=hid (show headH l=⟨1,2,(l.drop 16).take 2⟩ by rw [HH.out];rw [if_neg (by omega),if_neg (by omega),if_pos (.inl (by show N<29;omega))])
      rotate_left
      focus
        have KE:=hid True.intro
        have z1:(19:Int)≤N:=by omega
        have z2:(N:Int)≤4096:=by omega
        have z3:(29:Int)≤N:=by omega
        have R:=hid (show headH l=noneF by rw [HH.out];rw [if_neg (by omega),if_neg (by omega),if_neg (by show ¬ (N<29∨_);omega)])
      rotate_left
      rcases Nat.lt_or_ge N 23 with h5 | h5
      focus
        have KD:=hid True.intro
        have z1:(19:Int)≤N:=by omega
        have z2:(N:Int)≤4096:=by omega
        have z3:(N:Int)<23:=by omega
        have R:=hid (show headH l=⟨1,2,(l.drop 16).take 2⟩ by rw [HH.out];rw [if_neg (by omega),if_neg (by omega),if_pos (.inl (by show N<23;omega))])
      rotate_left
      focus
        have KE:=hid True.intro
        have z1:(19:Int)≤N:=by omega
        have z2:(N:Int)≤4096:=by omega
        have z3:(23:Int)≤N:=by omega
        have R:=hid (show headH l=noneF by rw [HH.out];rw [if_neg (by omega),if_neg (by omega),if_neg (by show ¬ (N<23∨_);omega)])
      rotate_left
      rcases Nat.lt_or_ge N 21 with h5 | h5
      focus
        have KD:=hid True.intro
        have z1:(19:Int)≤N:=by omega
        have z2:(N:Int)≤4096:=by omega
        have z3:(N:Int)<21:=by omega
        have R:=hid (show headH l=⟨1,2,(l.drop 16).take 2⟩ by rw [HH.out];rw [if_neg (by omega),if_neg (by omega),if_pos (.inl (by show N<21;omega))])
      rotate_left
      focus
        have KE:=hid True.intro
        have z1:(19:Int)≤N:=by omega
        have z2:(N:Int)≤4096:=by omega
        have z3:(21:Int)≤N:=by omega
        have R:=hid (show headH l=noneF by rw [HH.out];rw [if_neg (by omega),if_neg (by omega),if_neg (by show ¬ (N<21∨_);omega)])
      rotate_left
      rcases Nat.lt_or_ge 19 N with h5 | h5
      focus
        have KD:=hid True.intro
        have z1:(19:Int)≤N:=by omega
        have z2:(N:Int)≤4096:=by omega
        have z3:(19:Int)<N:=by omega
        have R:=hid (show headH l=⟨1,2,(l.drop 16).take 2⟩ by rw [HH.out];rw [if_neg (by omega),if_neg (by omega),if_pos (.inr ⟨rfl,by omega⟩)])
      rotate_left
      focus
        have KE:=hid True.intro
        have z1:(19:Int)≤N:=by omega
        have z2:(N:Int)≤4096:=by omega
        have z3:(N:Int)≤19:=by omega
        have R:=hid (show headH l=noneF by rw [HH.out];rw [if_neg (by omega),if_neg (by omega),if_neg (by show ¬ (N<19∨_);omega)])
      rotate_left
      all_goals
        clear HH
        (try clear h1)
        (try clear h2)
        (try clear h3)
        (try clear h4)
        (try clear h5)
        go_wp2_with (go_at_call 95;refine (CN2.out).mono ?_;rintro e x ⟨rfl,hb⟩;have B:=hid (BB.out.trans (hb.mono BB.out.size));have X:=HX.out.keep hb;have M:=hid (And.intro (HM.out.1.keep hb) (HM.out.2.keep hb));replace c18:=keepsT hb c18;clear c0 c1 c2 ff hb;have hsz:=X.lt;have hbx:=block_lt_of_cell c18;have HX2:=hid X;obtain ⟨c0,c1,c2⟩:=X.cells;have ff:=X.free;clear X)
        (try simp only [Exit.inBlock,Exit.then])
        first
          | (have tok := KB.out
             have r0:=(HX2.out.set0 (.int .i64 1)).cells.1
             have r1:=((HX2.out.set0 (.int .i64 1)).set1 (.int .i64 2)).cells.2.1
             have r2:=(HX2.out.laid (.int .i64 1) (.int .i64 2) (.slice (some ⟨b,off+16,none⟩) 2 (c - 16))).cells.2.2
             unfold three at r2
             refine bodyPost_ret (v:=.agg #[(.int .i64 1),(.int .i64 2),(.slice (some ⟨b,off+16,none⟩) 2 (c - 16))]) (by simp [results,Tryz.results99,go_sem,hsz,r0,r1,r2]) rfl ?_
             rw [R.out]
             exact ⟨_,_,_,rfl,head_end HX2.out B.out M.out.1 _⟩)
          | (have tok := KT.out
             have r0:=(HX2.out.set0 (.int .i64 1)).cells.1
             have r1:=((HX2.out.set0 (.int .i64 1)).set1 (.int .i64 3)).cells.2.1
             have r2:=(HX2.out.laid (.int .i64 1) (.int .i64 3) (.slice (some ⟨b,off+18,none⟩) 1 (c - 18))).cells.2.2
             unfold three at r2
             refine bodyPost_ret (v:=.agg #[(.int .i64 1),(.int .i64 3),(.slice (some ⟨b,off+18,none⟩) 1 (c - 18))]) (by simp [results,Tryz.results99,go_sem,hsz,r0,r1,r2]) rfl ?_
             rw [R.out]
             exact ⟨_,_,_,rfl,head_end HX2.out B.out M.out.2 _⟩)
          | (have tok := KD.out
             have r0:=(HX2.out.set0 (.int .i64 1)).cells.1
             have r1:=((HX2.out.set0 (.int .i64 1)).set1 (.int .i64 2)).cells.2.1
             have r2:=(HX2.out.laid (.int .i64 1) (.int .i64 2) (.slice (some ⟨b,off+16,none⟩) 2 (c - 16))).cells.2.2
             unfold three at r2
             refine bodyPost_ret (v:=.agg #[(.int .i64 1),(.int .i64 2),(.slice (some ⟨b,off+16,none⟩) 2 (c - 16))]) (by simp [results,Tryz.results99,go_sem,hsz,r0,r1,r2]) rfl ?_
             rw [R.out]
             exact ⟨_,_,_,rfl,head_end2 HX2.out B.out M.out.1 _ _⟩)
          | (have tok := KE.out
             have r0:=(HX2.out.set0 (.int .i64 0)).cells.1
             have r1:=((HX2.out.set0 (.int .i64 0)).set1 (.int .i64 0)).cells.2.1
             have r2:=(HX2.out.laid (.int .i64 0) (.int .i64 0) (.slice none 0 0)).cells.2.2
             unfold three at r2
             refine bodyPost_ret (v:=.agg #[(.int .i64 0),(.int .i64 0),(.slice none 0 0)]) (by simp [results,Tryz.results99,go_sem,hsz,r0,r1,r2]) rfl ?_
             rw [R.out]
             exact ⟨_,_,_,rfl,head_end2 HX2.out B.out (U8s.nil _) _ _⟩)
end Frm
namespace Att
open Go.RowKit Mem Oct
structure Wst (base:Nat) (v:Value) (F0:Nat→Prop) (s:World) (l:List Nat) (F:Nat→Prop) (W:World):Prop where
 wr:Wr W base v l F
 on:Only F0 s W
 gr:Grow F0 F s
section
variable {base:Nat} {v x:Value} {F0 F:Nat→Prop} {s W W2:World} {l l2:List Nat} {e:Ending}
theorem Wst.new (h:Wr s base v l F):Wst base v F s l F s:=⟨h,Only.refl _ _,fun _ h=>.inl h⟩
theorem Wst.below (h:Wst base v F0 s l F W) (hb:Below W.heap.size W W2):Wst base v F0 s l F W2 :=
 ⟨h.wr.below hb,h.on.trans (Only.of hb),h.gr⟩
theorem Wst.add (h:Wst base v F0 s l F W) (k:AddF base v x l2 F W e W2):∃ F2,e=.returned x∧Wst base v F0 s l2 F2 W2:=by
 obtain ⟨F2,h1,h2,h3,h4⟩:=k
 have h5:=two_puts F F2 h2 h.on h.gr h.wr h3 h4 (x:=x)
 obtain ⟨F3,e3,k1,k2,k3⟩:=h5
 exact ⟨F3,h1,k1,k2,k3⟩
theorem Wst.size (h:Wst base v F0 s l F W):s.heap.size≤W.heap.size:=h.on.size
theorem Wst.then_ {F2:Nat→Prop} (h:Wst base v F0 s l F W) (k:Wst base v F W l2 F2 W2):Wst base v F0 s l2 F2 W2:=by
 have h5:=two_puts F F2 k.wr h.on h.gr h.wr k.on k.gr (x:=v)
 obtain ⟨F3,e3,k1,k2,k3⟩:=h5
 exact ⟨k.wr,k2,fun j hj=>by
  rcases k.gr j hj with q | q
  ·exact h.gr j q
  ·exact .inr (Nat.le_trans h.size q)⟩
end
theorem Wst.only {base:Nat} {v:Value} {F0 F:Nat→Prop} {s W W2:World} {l:List Nat} (h:Wst base v F0 s l F W) (ho:Only F W W2):Only F0 s W2 :=
 ⟨ho.os.trans h.on.os,ho.tape.trans h.on.tape,ho.output.trans h.on.output,Nat.le_trans h.on.size ho.size,fun k hk hf=>(ho.block k (Nat.lt_of_lt_of_le hk h.on.size) (fun q=>(h.gr k q).elim hf (fun r=>by omega))).trans (h.on.block k hk hf)⟩
theorem wr_small {W:World} {base:Nat} {v:Value} {l:List Nat} {F:Nat→Prop} (h:Wr W base v l F):Small l:=let ⟨_,_,_,_,_,_,h5,_⟩:=h;h5
theorem sizedO_any (v:Value) (A:Option Addr) (c:Nat) (base:Nat) (l m:List Nat) (F:Nat→Prop) (w:World) (hW:Wr w base v l F) (hx:∀ W,Only F w W→U8s W (.slice A m.length c) m) (hlen:l.length+m.length≤800000) (hbase:base≤w.heap.size) :
  Calls Tryz.prog 102 #[v,.slice A m.length c] w (AddF base v (.bool (decide (m.length≤255))) (l ++ sizedS m) F w):=by
 have hW0:=hW
 obtain ⟨b,s,hv,-⟩:=hW0
 have HW:=hid hW
 by_cases hm:m.length≤255
 ·have z1:(m.length:Int)≤255:=by omega
  have e1:decide (m.length≤255)=true:=decide_eq_true hm
  have e2:l ++ sizedS m=(l ++ [lo8 (m.length:Int)]) ++ m:=by unfold sizedS;rw [if_pos hm,List.append_assoc]
  rw [e1,e2]
  have CU:=hid (w8_put v base l F (m.length:Int) w hW (by omega) hbase)
  have CP:=hid (fun F1 W (h1:Wr W base v (l ++ [lo8 (m.length:Int)]) F1) (h2:U8s W (.slice A m.length c) m) (h3:base≤W.heap.size)=>put_any v (.slice A m.length c) base (l ++ [lo8 (m.length:Int)]) m F1 W h1 h2 (by simp;omega) h3)
  have HX:=hid hx
  have HB:=hid hbase
  clear hx hW e1 e2
  generalize [lo8 (m.length:Int)]=H at CU CP ⊢
  subst hv
  go_enter Tryz.func102,Tryz.ntmps102
  go_wp2_with (first
   | (go_at_call 62;refine (CU.out).mono ?_;rintro e w1 ⟨F1,rfl,h1,h2,h3⟩;have H1:=hid h1;have H2:=hid h2;have H3:=hid h3;clear h1 h2 h3)
   | (go_at_call 59;have k1:=HX.out _ H2.out;have k2:=H1.out;have k3:=Nat.le_trans HB.out H2.out.size;refine (CP.out _ _ k2 k1 k3).mono ?_;clear k1 k2 k3;rintro e w2 ⟨F2,rfl,h1,h2,h3⟩;have K1:=hid h1;have K2:=hid h2;have K3:=hid h3;clear h1 h2 h3))
  go_ret
  exact two_puts F1 F2 K1.out H2.out H3.out H1.out K2.out K3.out
 ·have z1:(m.length:Int) > 255:=by omega
  have e1:decide (m.length≤255)=false:=decide_eq_false hm
  have e2:l ++ sizedS m=l:=by unfold sizedS;rw [if_neg hm,List.append_nil]
  rw [e1,e2]
  clear hx hW e1 e2
  subst hv
  go_enter Tryz.func102,Tryz.ntmps102
  go_wp2
  go_ret
  exact ⟨F,rfl,HW.out,Only.refl _ _,fun k hk=>.inl hk⟩
theorem longO_any (v:Value) (A:Option Addr) (c:Nat) (base:Nat) (l m:List Nat) (F:Nat→Prop) (w:World) (hW:Wr w base v l F) (hx:∀ W,Only F w W→U8s W (.slice A m.length c) m) (hlen:l.length+m.length≤800000) (hbase:base≤w.heap.size) :
  Calls Tryz.prog 107 #[v,.slice A m.length c] w (AddF base v (.bool (decide (m.length≤65535))) (l ++ longS m) F w):=by
 have hW0:=hW
 obtain ⟨b,s,hv,-⟩:=hW0
 have HW:=hid hW
 by_cases hm:m.length≤65535
 ·have z1:(m.length:Int)≤65535:=by omega
  have e1:decide (m.length≤65535)=true:=decide_eq_true hm
  have e2:l ++ longS m=(l ++ [lo8 ((m.length:Int) / 256),lo8 (m.length:Int)]) ++ m:=by unfold longS;rw [if_pos hm,List.append_assoc]
  rw [e1,e2]
  have CU:=hid (w16_put v base l F (m.length:Int) w hW (by omega) hbase)
  have CP:=hid (fun F1 W (h1:Wr W base v (l ++ [lo8 ((m.length:Int) / 256),lo8 (m.length:Int)]) F1) (h2:U8s W (.slice A m.length c) m) (h3:base≤W.heap.size)=>put_any v (.slice A m.length c) base (l ++ [lo8 ((m.length:Int) / 256),lo8 (m.length:Int)]) m F1 W h1 h2 (by simp;omega) h3)
  have HX:=hid hx
  have HB:=hid hbase
  clear hx hW e1 e2
  generalize [lo8 ((m.length:Int) / 256),lo8 (m.length:Int)]=H at CU CP ⊢
  subst hv
  go_enter Tryz.func107,Tryz.ntmps107
  go_wp2_with (first
   | (go_at_call 61;refine (CU.out).mono ?_;rintro e w1 ⟨F1,rfl,h1,h2,h3⟩;have H1:=hid h1;have H2:=hid h2;have H3:=hid h3;clear h1 h2 h3)
   | (go_at_call 59;have k1:=HX.out _ H2.out;have k2:=H1.out;have k3:=Nat.le_trans HB.out H2.out.size;refine (CP.out _ _ k2 k1 k3).mono ?_;clear k1 k2 k3;rintro e w2 ⟨F2,rfl,h1,h2,h3⟩;have K1:=hid h1;have K2:=hid h2;have K3:=hid h3;clear h1 h2 h3))
  go_ret
  exact two_puts F1 F2 K1.out H2.out H3.out H1.out K2.out K3.out
 ·have z1:(m.length:Int) > 65535:=by omega
  have e1:decide (m.length≤65535)=false:=decide_eq_false hm
  have e2:l ++ longS m=l:=by unfold longS;rw [if_neg hm,List.append_nil]
  rw [e1,e2]
  clear hx hW e1 e2
  subst hv
  go_enter Tryz.func107,Tryz.ntmps107
  go_wp2
  go_ret
  exact ⟨F,rfl,HW.out,Only.refl _ _,fun k hk=>.inl hk⟩
end Att
namespace Opn
open Go.RowKit Mem Oct Att
def opn (o:Op):Value:=.agg #[.int .u32 o.an,.int .i64 o.hold,.int .u32 o.ri,.bool o.four]
theorem holdsB_cases (n:Int):(n=0∧holdsB n=true)∨(n≠0∧n<3∧holdsB n=false)∨(3≤n∧n≤65535∧holdsB n=true)∨(65535<n∧holdsB n=false):=by
 by_cases h0:n=0
 ·exact .inl ⟨h0,by unfold holdsB;simp [h0]⟩
 ·by_cases h1:n<3
  ·exact .inr (.inl ⟨h0,h1,by unfold holdsB;simp [h0];omega⟩)
  ·by_cases h2:n≤65535
   ·exact .inr (.inr (.inl ⟨by omega,h2,by unfold holdsB;simp [h0];omega⟩))
   ·exact .inr (.inr (.inr ⟨by omega,by unfold holdsB;simp [h0];omega⟩))
theorem pholds_any (n:Int) (w:World):Calls Tryz.prog 64 #[.int .i64 n] w (Tells (.bool (holdsB n)) w):=by
 rcases holdsB_cases n with ⟨rfl,e⟩ | ⟨h0,h1,e⟩ | ⟨h1,h2,e⟩ | ⟨h1,e⟩
 ·rw [e]
  clear e
  go_enter Tryz.func64,Tryz.ntmps64
  go_wp2
  go_ret
  exact ⟨rfl,Below.refl _ _⟩
 ·rw [e]
  clear e
  have y0:(n == 0)=false:=by simp [h0]
  have y1:decide (3≤n)=false:=by simp;omega
  clear h0 h1
  go_enter Tryz.func64,Tryz.ntmps64
  go_wp2
  go_ret
  exact ⟨rfl,Below.refl _ _⟩
 ·rw [e]
  clear e
  have y0:(n == 0)=false:=by simp;omega
  go_enter Tryz.func64,Tryz.ntmps64
  go_wp2
  go_ret
  exact ⟨rfl,Below.refl _ _⟩
 ·rw [e]
  clear e
  have y0:(n == 0)=false:=by simp;omega
  have y1:decide (n≤65535)=false:=by simp;omega
  have y2:3≤n:=by omega
  clear h1
  go_enter Tryz.func64,Tryz.ntmps64
  go_wp2
  go_ret
  exact ⟨rfl,Below.refl _ _⟩
theorem fault_any (s:Int) (A:Option Addr) (n c:Nat) (w:World):Calls Tryz.prog 86 #[.int .i64 s,.slice A n c] w (Tells (.agg #[.int .i64 2,.int .i64 s,.slice A n c]) w):=by
 have HB:=hid ((Below.refl w.heap.size w).alloc (Nat.le_refl _) (.cells #[.int .i64 2,.int .i64 s,.slice A n c] 34))
 go_enter Tryz.func86,Tryz.ntmps86
 go_wp2
 (try simp only [Exit.inBlock,Exit.then])
 refine bodyPost_ret (v:=.agg #[.int .i64 2,.int .i64 s,.slice A n c]) (by simp [results,Tryz.results86,go_sem]) rfl ?_
 exact ⟨rfl,HB.out⟩
end Opn
namespace Opn
open Go.RowKit Mem Oct Att
theorem R_base {W:World} {base base' n:Nat} {v:Value} {l:List Nat} {bad:Bool} {F:Nat→Prop} (h:R W base n v l bad F) (hb:base'≤base):R W base' n v l bad F:=by
 rcases h with h | ⟨b,s,h1,h2,h3⟩
 ·exact .inl h
 ·exact .inr ⟨b,s,h1,Nat.le_trans hb h2,h3⟩
def onK (x:Rd):Nat:=x.num 1
def onN (x:Rd):Nat:=(x.go 1).num 1
def on2 (x:Rd):Rd:=(x.go 1).go 1
def onV (x:Rd):Rd:=⟨got (on2 x).l (on2 x).b (onN x:Nat),fails (on2 x).l (on2 x).b (onN x:Nat)⟩
def onR (x:Rd):Rd:=(on2 x).go (onN x:Nat)
def NextF (base n:Nat) (v:Value) (F:Nat→Prop) (x:Rd) (w:World) (e:Ending) (w':World):Prop :=
 ∃ b,e=.returned (.tuple #[.int .i64 (onK x:Nat),.pointer (some ⟨b,0,none⟩)])∧w.heap.size≤b∧R w' w.heap.size w'.heap.size (.pointer (some ⟨b,0,none⟩)) (onV x).l (onV x).b (fun k=>k=b)∧R w' base n v (onR x).l (onR x).b F∧Only F w w'
theorem onext_any (v:Value) (base n:Nat) (x:Rd) (F:Nat→Prop) (w:World) (hs:Small x.l) (hR:R w base n v x.l x.b F) (hn:n≤w.heap.size):Calls Tryz.prog 131 #[v] w (NextF base n v F x w):=by
 have hN:onN x<256:=num_lt (x:=x.go 1) (Rd.small hs 1) 1
 have S0:=hid (show R w base n v x.l x.b F∧Only F w w from ⟨hR,Only.refl _ _⟩)
 have HN:=hid hn
 have C1:=hid (fun (W:World) (h:R W base n v x.l x.b F)=>show Calls Tryz.prog 82 #[v] W (fun e w'=>e=.returned (.int .i64 (onK x:Nat))∧R w' base n v (x.go 1).l (x.go 1).b F∧Only F W w') from u8_any v base n x.l x.b F W hs h)
 have C2:=hid (fun (W:World) (h:R W base n v (x.go 1).l (x.go 1).b F)=>show Calls Tryz.prog 82 #[v] W (fun e w'=>e=.returned (.int .i64 (onN x:Nat))∧R w' base n v (on2 x).l (on2 x).b F∧Only F W w') from u8_any v base n (x.go 1).l (x.go 1).b F W (Rd.small hs 1) h)
 have C3:=hid (fun (W:World) (hn:n≤W.heap.size) (h:R W base n v (on2 x).l (on2 x).b F)=>show Calls Tryz.prog 156 #[v,.int .i64 (onN x:Nat)] W (PartF base n v F (on2 x).l (on2 x).b (onN x:Nat) W) from part_any v base n (on2 x).l (on2 x).b F (onN x:Nat) (by simp [Lit.wf,IntKind.min,IntKind.max,IntKind.signed,IntKind.bits];omega) W hn h)
 unfold NextF
 have HV:=hid (show (onV x).l=got (on2 x).l (on2 x).b (onN x:Nat)∧(onV x).b=fails (on2 x).l (on2 x).b (onN x:Nat)∧(onR x).l=rest (on2 x).l (on2 x).b (onN x:Nat)∧(onR x).b=fails (on2 x).l (on2 x).b (onN x:Nat) from ⟨rfl,rfl,rfl,rfl⟩)
 generalize onV x=V at HV ⊢
 generalize onR x=Y at HV ⊢
 generalize onK x=k at C1 ⊢
 generalize onN x=N at C2 C3 HV
 clear hs hR hn hN
 go_enter Tryz.func131,Tryz.ntmps131
 go_wp2_with (first
  | (have h:=S2.out;go_at_call 156;(refine (C3.out _ (Nat.le_trans HN.out h.2.size) h.1).mono ?_;rintro e z ⟨b,rfl,hb,hV,hR,ho⟩;have S3:=hid (And.intro hb (And.intro hV (And.intro hR (And.intro h.2.size (h.2.trans ho)))));clear h hb hV hR ho S2))
  | (have h:=S1.out;go_at_call 82;(refine (C2.out _ h.1).mono ?_;rintro e z ⟨rfl,hR,ho⟩;have S2:=hid (And.intro hR (h.2.trans ho));clear h hR ho S1))
  | (have h:=S0.out;go_at_call 82;(refine (C1.out _ h.1).mono ?_;rintro e z ⟨rfl,hR,ho⟩;have S1:=hid (And.intro hR (h.2.trans ho));clear h hR ho S0)))
 go_ret2
 obtain ⟨h1,h2,h3,h4,h5⟩:=S3.out
 obtain ⟨e1,e2,e3,e4⟩:=HV.out
 rw [e1,e2,e3,e4]
 exact ⟨b,rfl,Nat.le_trans h4 h1,R_base h2 h4,h3,h5⟩
section
variable {w0 W W2:World} {P1 P2 x:Value} {l1 l2 l:List Nat} {F1 F2:Nat→Prop} {e:Ending}
end
end Opn
namespace Opn
open Go.RowKit Mem Oct Att
open Go.Lib (hid)
section
variable {w w0 W W2:World} {P1 P2 x o0 o1 o2 o3:Value} {l1 l2 l:List Nat} {F1 F2:Nat→Prop} {e:Ending}
end
end Opn
namespace Opn
open Go.RowKit Mem Oct Att
open Go.Lib (hid)
theorem rholds_any (n:Int) (w:World):Calls Tryz.prog 69 #[.int .i64 n] w (Tells (.bool (holdsB n)) w):=by
 rcases holdsB_cases n with ⟨rfl,e⟩ | ⟨h0,h1,e⟩ | ⟨h1,h2,e⟩ | ⟨h1,e⟩
 ·rw [e]
  clear e
  go_enter Tryz.func69,Tryz.ntmps69
  go_wp2
  go_ret
  exact ⟨rfl,Below.refl _ _⟩
 ·rw [e]
  clear e
  have y0:(n == 0)=false:=by simp [h0]
  have y1:decide (2<n)=false:=by simp;omega
  clear h0 h1
  go_enter Tryz.func69,Tryz.ntmps69
  go_wp2
  go_ret
  exact ⟨rfl,Below.refl _ _⟩
 ·rw [e]
  clear e
  have y0:(n == 0)=false:=by simp;omega
  have y1:2<n:=by omega
  have y2:n<65536:=by omega
  go_enter Tryz.func69,Tryz.ntmps69
  go_wp2
  go_ret
  exact ⟨rfl,Below.refl _ _⟩
 ·rw [e]
  clear e
  have y0:(n == 0)=false:=by simp;omega
  have y1:decide (n<65536)=false:=by simp;omega
  have y2:2<n:=by omega
  clear h1
  go_enter Tryz.func69,Tryz.ntmps69
  go_wp2
  go_ret
  exact ⟨rfl,Below.refl _ _⟩
section
variable {w0 W W2:World} {x0 x1 x2 x3 v v2:Value} {l l2:List Nat} {n n2:Nat}
end
end Opn
namespace Opn
open Oct Att
def thenO (r:Option Op) (f:Op→Nat ⊕ Op):Nat ⊕ Op:=match r with
 | some o=>f o
 | none=>.inl 0
theorem pars_two (o:Op) (t m:Nat) (r:List Nat):pars o (t :: m :: r)=if m≤r.length then (if t=2 then thenO (caps o (r.take m)) (fun o2=>pars o2 (r.drop m)) else .inl 4) else .inl 0:=by
 rw [pars_step];rfl
end Opn
namespace Opn
open Go.RowKit Mem Oct Att
theorem rno_any (s:Int) (w:World):Calls Tryz.prog 94 #[.int .i64 s] w (Tells (.tuple #[.agg #[.int .u32 0,.int .i64 0,.int .u32 0,.bool false],.agg #[.int .i64 2,.int .i64 s,.slice none 0 0]]) w):=by
 have HB:=hid (((Below.refl w.heap.size w).alloc (Nat.le_refl _) (.cells #[.int .u32 0,.int .i64 0,.int .u32 0,.bool false] 24)).alloc (by simp) (.cells #[.int .i64 2,.int .i64 s,.slice none 0 0] 34))
 go_enter Tryz.func94,Tryz.ntmps94
 go_wp2
 (try simp only [Exit.inBlock,Exit.then])
 refine bodyPost_ret (v:=.tuple #[.agg #[.int .u32 0,.int .i64 0,.int .u32 0,.bool false],.agg #[.int .i64 2,.int .i64 s,.slice none 0 0]]) (by simp [results,Tryz.results94,go_sem]) rfl ?_
 exact ⟨rfl,HB.out⟩
def DecF9 (b:List Nat) (w:World) (e:Ending) (w':World):Prop :=
 ∃ vn,e=.returned (.tuple #[opn (outO (decO b)).1,vn])∧Note w' vn (outO (decO b)).2∧Below w.heap.size w w'
structure Rd0 (w W:World):Prop where
 r4:Box4 W w.heap.size 24 (.int .u32 0) (.int .i64 0) (.int .u32 0) (.bool false)
 r3:Box3 W (w.heap.size+1) 34 (.int .i64 0) (.int .i64 0) (.slice none 0 0)
 low:Below w.heap.size w W
theorem Rd0.below {w W W2:World} (h:Rd0 w W) (hb:Below W.heap.size W W2):Rd0 w W2:=⟨h.r4.keep hb,h.r3.keep hb,h.low.trans (hb.mono h.low.size)⟩
theorem rd0_start (w:World):Rd0 w ((w.alloc (.cells #[.int .u32 0,.int .i64 0,.int .u32 0,.bool false] 24)).alloc (.cells #[.int .i64 0,.int .i64 0,.slice none 0 0] 34)):=by
 have h1:=Box4.new w 24 (.int .u32 0) (.int .i64 0) (.int .u32 0) (.bool false)
 have b1:Below w.heap.size w (w.alloc (.cells #[.int .u32 0,.int .i64 0,.int .u32 0,.bool false] 24)):=(Below.refl _ w).alloc (Nat.le_refl _) _
 have e1:(w.alloc (.cells #[.int .u32 0,.int .i64 0,.int .u32 0,.bool false] 24)).heap.size=w.heap.size+1:=by simp
 have h2:=Box3.new (w.alloc (.cells #[.int .u32 0,.int .i64 0,.int .u32 0,.bool false] 24)) 34 (.int .i64 0) (.int .i64 0) (.slice none 0 0)
 rw [e1] at h2
 exact ⟨h1.keep ((Below.refl _ _).alloc (Nat.le_refl _) _),h2,b1.alloc b1.size _⟩
def ends (w W:World) (x y z u a b c:Value):World:=three (four W w.heap.size x y z u) (w.heap.size+1) a b c
theorem Rd0.mid {w W:World} (h:Rd0 w W) (x y z u:Value):Box3 (four W w.heap.size x y z u) (w.heap.size+1) 34 (.int .i64 0) (.int .i64 0) (.slice none 0 0):=by
 have ho:=four_off W w.heap.size x y z u
 exact ⟨(ho.1 _ (by omega)).trans h.r3.blk⟩
theorem Rd0.fin {w W:World} (h:Rd0 w W) (x y z u a b c:Value):Box4 (ends w W x y z u a b c) w.heap.size 24 x y z u∧Box3 (ends w W x y z u a b c) (w.heap.size+1) 34 a b c∧Below w.heap.size w (ends w W x y z u a b c):=by
 have ho:=three_off (four W w.heap.size x y z u) (w.heap.size+1) a b c
 exact ⟨⟨(ho.1 _ (by omega)).trans (h.r4.laid x y z u).blk⟩,(h.mid x y z u).laid a b c,three_low (four_low h.low _ (Nat.le_refl _) x y z u) _ (by omega) a b c⟩
theorem Rd0.bad {w W:World} (h:Rd0 w W) {b:List Nat} {s:Nat} {si:Int} (hd:decO b=.inl s) (hs:s≠1) (hi:si=(s:Int)) (hl:(s:Int)≤255) :
  DecF9 b w (.returned (.tuple #[.agg #[.int .u32 0,.int .i64 0,.int .u32 0,.bool false],.agg #[.int .i64 2,.int .i64 si,.slice none 0 0]])) (ends w W (.int .u32 0) (.int .i64 0) (.int .u32 0) (.bool false) (.int .i64 2) (.int .i64 si) (.slice none 0 0)):=by
 subst hi
 unfold DecF9
 rw [hd]
 refine ⟨_,rfl,⟨show (Lit.int .i64 2).wf=true by decide,?_,.slice none 0 0,rfl,?_⟩,(h.fin _ _ _ _ _ _ _).2.2⟩
 ·show (Lit.int .i64 (s:Int)).wf=true
  simp [Lit.wf,IntKind.min,IntKind.max,IntKind.signed,IntKind.bits];omega
 ·show U8s _ _ (if s=1 then [0,4] else [])
  rw [if_neg hs]
  exact U8s.nil _
structure RdO (w:World) (o:Op) (W:World):Prop where
 rd:Rd0 w W
 bo:Box4 W (w.heap.size+1+1) 24 (.int .u32 o.an) (.int .i64 o.hold) (.int .u32 o.ri) (.bool o.four)
theorem RdO.below {w W W2:World} {o:Op} (h:RdO w o W) (hb:Below W.heap.size W W2):RdO w o W2:=⟨h.rd.below hb,h.bo.keep hb⟩
theorem RdO.set {w W:World} {o:Op} (h:RdO w o W) (n:Nat):RdO w ⟨n,o.hold,o.ri,true⟩ ((W.setCell ⟨w.heap.size+1+1,0,none⟩ (.int .u32 n)).setCell ⟨w.heap.size+1+1,3,none⟩ (.bool true)) :=
 ⟨⟨(h.rd.r4.far (by omega) _).far (by omega) _,(h.rd.r3.far (by omega) _).far (by omega) _,(h.rd.low.setCell (p:=⟨w.heap.size+1+1,0,none⟩) (by show w.heap.size≤w.heap.size+1+1;omega) _).setCell (p:=⟨w.heap.size+1+1,3,none⟩) (by show w.heap.size≤w.heap.size+1+1;omega) _⟩,(h.bo.set0 _).set3 _⟩
theorem rdo_start (w:World) (o:Op):RdO w o (((w.alloc (.cells #[.int .u32 0,.int .i64 0,.int .u32 0,.bool false] 24)).alloc (.cells #[.int .i64 0,.int .i64 0,.slice none 0 0] 34)).alloc (.cells #[.int .u32 o.an,.int .i64 o.hold,.int .u32 o.ri,.bool o.four] 24)).drew:=by
 have h:=rd0_start w
 have e:((w.alloc (.cells #[.int .u32 0,.int .i64 0,.int .u32 0,.bool false] 24)).alloc (.cells #[.int .i64 0,.int .i64 0,.slice none 0 0] 34)).heap.size=w.heap.size+1+1:=by simp
 generalize ((w.alloc (.cells #[.int .u32 0,.int .i64 0,.int .u32 0,.bool false] 24)).alloc (.cells #[.int .i64 0,.int .i64 0,.slice none 0 0] 34))=W at h e ⊢
 have h2:=Box4.new W 24 (.int .u32 o.an) (.int .i64 o.hold) (.int .u32 o.ri) (.bool o.four)
 rw [e] at h2
 exact ⟨h.below ((Below.refl _ _).alloc (Nat.le_refl _) _).drew,h2.keep (Below.refl _ _).drew⟩
theorem numE (v:Value) (l:List Nat) (w:World) (hv:U8s w v l) (hl:l.length≤4):Calls Tryz.prog 95 #[v] w (fun e w'=>e=.returned (.int .u32 (val l))∧w'=w):=by
 obtain ⟨A,c,rfl,hlc,hc⟩:=hv.form
 have HU:=hid hv
 clear hv
 go_enter Tryz.func95,Tryz.ntmps95
 go_wp2
 go_loopw [3,4] (fun v3 v4 wx=>∃ j:Nat,j≤l.length∧v4=.int .i64 j∧v3=.int .u32 (val (l.take j))∧wx=w) (fun _ v4 _=>l.length - (intOf v4).toNat)
 case atStart=>exact ⟨0,Nat.zero_le _,rfl,rfl,rfl⟩
 case round =>
  obtain ⟨j,hj,rfl,rfl,rfl⟩:=hrel
  by_cases hlt:j<l.length
  ·obtain ⟨b,off,x,rfl,hbl,hx,hx2,hc⟩:=(HU.out).at_ hlt
   have z0:(0:Int)≤(j:Int):=by omega
   have z1:(j:Int)<(l.length:Int):=by omega
   have hv:=val_lt j HU.out.2
   have hv2:=Nat.lt_of_lt_of_le hv (pow_le (show j≤3 by omega))
   have HV:=hid (val_take hx)
   clear hv hx
   generalize val (l.take j)=V at hv2 HV ⊢
   go_wp2
   go_roundw
   case rel=>exact ⟨j+1,hlt,by go_num,by rw [HV.out];go_num,trivial⟩
   case measure=>simp [intOf];omega
  ·obtain rfl:j=l.length:=by omega
   go_wp2
   go_ret
   rw [List.take_length]
   exact ⟨rfl,rfl⟩
theorem decode_r0 (v:Value) (b:List Nat) (w:World) (hv:U8s w v b) (hl:b.length<10):Calls Tryz.prog 50 #[v] w (DecF9 b w):=by
 have D0:=hid (rd0_start w)
 have CN:=hid rno_any
 obtain ⟨Ab,cb,rfl,hlc,hcc⟩:=hv.form
 have HD:=hid (show decO b=.inl 0 from if_pos hl)
 have z1:(b.length:Int)<10:=by omega
 clear hv hl hlc hcc
 go_enter Tryz.func50,Tryz.ntmps50
 go_wp2_with (go_at_call 94;(refine (CN.out _ _).mono ?_;rintro e z ⟨rfl,hb⟩;have SZ:=hid (D0.out.below hb);clear hb;obtain ⟨f0,f1,f2,f3⟩:=SZ.out.r4.cells;have fr4:=SZ.out.r4.free;obtain ⟨m0,m1,m2⟩:=(SZ.out.mid (.int .u32 0) (.int .i64 0) (.int .u32 0) (.bool false)).cells;have fr3:=(SZ.out.mid (.int .u32 0) (.int .i64 0) (.int .u32 0) (.bool false)).free;unfold four at m0 m1 m2 fr3))
 clear f0 f1 f2 f3 fr4 m0 m1 m2 fr3
 (try simp only [Exit.inBlock,Exit.then])
 obtain ⟨k1,k2,-⟩:=SZ.out.fin (.int .u32 0) (.int .i64 0) (.int .u32 0) (.bool false) (.int .i64 2) (.int .i64 0) (.slice none 0 0)
 obtain ⟨r0,r1,r2,r3⟩:=k1.cells
 obtain ⟨t0,t1,t2⟩:=k2.cells
 clear k1 k2
 unfold ends three four at r0 r1 r2 r3 t0 t1 t2
 refine bodyPost_ret (v:=.tuple #[.agg #[.int .u32 0,.int .i64 0,.int .u32 0,.bool false],.agg #[.int .i64 2,.int .i64 0,.slice none 0 0]]) (by simp [results,Tryz.results50,go_sem,r0,r1,r2,r3,t0,t1,t2]) rfl ?_
 exact SZ.out.bad (s:=0) HD.out (by decide) rfl (by decide)
end Opn
namespace Opn
open Oct Att Mem
theorem val4 {l:List Nat} {k:Nat} (h:Small l) (hk:k≤4):val (l.take k)<4294967296:=Nat.lt_of_lt_of_le (val_lt k h) (by rw [show (4294967296:Nat)=256 ^ 4 by decide];exact Nat.pow_le_pow_right (by decide) hk)
theorem caps_ok:∀ (n:Nat) (o:Op) (b:List Nat) (o2:Op),Small b→o.ok→capsO n o b=some o2→o2.ok
 | 0,o,b,o2,_,ho,h=>by
  unfold capsO at h
  split at h
  ·injection h with h;rw [← h];exact ho
  ·cases h
 | n+1,o,b,o2,hs,ho,h=>by
  match b,hs with
  | [],_=>simp only [capsO] at h;injection h with h;rw [← h];exact ho
  | [c],_=>simp only [capsO] at h;cases h
  | c :: m :: r,hs =>
   have hr:Small r:=fun x hx=>hs x (List.mem_cons_of_mem _ (List.mem_cons_of_mem _ hx))
   have hd:Small (r.drop m):=fun x hx=>hr x (List.mem_of_mem_drop hx)
   simp only [capsO] at h
   split at h
   ·split at h
    ·split at h
     ·rename_i h4
      exact caps_ok n ⟨val (r.take m),o.hold,o.ri,true⟩ _ o2 hd ⟨val4 hr (by omega),ho.2.1,ho.2.2⟩ h
     ·cases h
    ·exact caps_ok n _ _ o2 hd ho h
   ·cases h
theorem pars_ok:∀ (n:Nat) (o:Op) (b:List Nat) (o2:Op),Small b→o.ok→parsO n o b=.inr o2→o2.ok
 | 0,o,b,o2,_,ho,h=>by
  unfold parsO at h
  split at h
  ·injection h with h;rw [← h];exact ho
  ·cases h
 | n+1,o,b,o2,hs,ho,h=>by
  match b,hs with
  | [],_=>simp only [parsO] at h;injection h with h;rw [← h];exact ho
  | [c],_=>simp only [parsO] at h;cases h
  | c :: m :: r,hs =>
   have hr:Small r:=fun x hx=>hs x (List.mem_cons_of_mem _ (List.mem_cons_of_mem _ hx))
   have hd:Small (r.drop m):=fun x hx=>hr x (List.mem_of_mem_drop hx)
   simp only [parsO] at h
   split at h
   ·split at h
    ·split at h
     ·rename_i o3 hc
      exact pars_ok n _ _ o2 hd (caps_ok m o (r.take m) o3 (hr.take m) ho hc) h
     ·cases h
    ·cases h
   ·cases h
theorem out_ok {b:List Nat} (hs:Small b):(outO (decO b)).1.ok:=by
 have z:zeroO.ok:=⟨by decide,by decide,by decide⟩
 cases h:decO b with
 | inl s=>exact z
 | inr o =>
  show o.ok
  have hd:∀ k,Small (b.drop k):=fun k x hx=>hs x (List.mem_of_mem_drop hx)
  have h1:=val4 (hd 1) (k:=2) (by decide)
  have h2:=val_lt 2 (hd 3)
  have h3:=val4 (hd 5) (k:=4) (by decide)
  unfold decO at h
  split at h
  ·cases h
  ·split at h
   ·cases h
   ·split at h
    ·cases h
    ·split at h
     ·cases h
     ·split at h
      ·cases h
      ·split at h
       ·cases h
       ·refine pars_ok _ _ _ o (hd 10) ⟨h1,?_,h3⟩ h
        show (Lit.int .i64 (val ((b.drop 3).take 2):Nat)).wf=true
        simp [Lit.wf,IntKind.min,IntKind.max,IntKind.signed,IntKind.bits]
        omega
end Opn
namespace Ntc
open Go.RowKit Mem Oct Att
open Go.Lib (hid)
theorem ntc_box (w:World) (x y z:Value):Below w.heap.size w (w.alloc (.cells #[x,y,z] 34)):=(Below.refl _ w).alloc (Nat.le_refl _) _
theorem good_any (v:Value) (n:No) (w:World) (h:Note w v n):Calls Tryz.prog 29 #[v] w (Tells (.bool (goodN n)) w):=by
 obtain ⟨-,-,vd,rfl,hd⟩:=h
 obtain ⟨c,s,l⟩:=n
 dsimp only at hd ⊢
 obtain ⟨A,cp,rfl,-,-⟩:=hd.form
 have BB:=hid (ntc_box w (.int .i64 c) (.int .i64 s) (.slice A l.length cp))
 clear hd
 unfold goodN
 dsimp only
 rcases (show c<1∨1≤c∧255<c∨1≤c∧c≤255∧s<0∨1≤c∧c≤255∧0≤s∧255<s∨1≤c∧c≤255∧0≤s∧s≤255 by omega) with h1 | ⟨h1,h2⟩ | ⟨h1,h2,h3⟩ | ⟨h1,h2,h3,h4⟩ | ⟨h1,h2,h3,h4⟩
 all_goals
  first
   | rw [decide_eq_false (by omega)]
   | rw [show decide (1≤c∧c≤255∧0≤s∧s≤255∧l.length≤4075)=decide ((l.length:Int)≤4075) from decide_eq_decide.2 (by omega)]
  go_enter Tryz.func29,Tryz.ntmps29
  go_wp2
  go_ret
  exact ⟨rfl,BB.out⟩
theorem note_zero (W:World):Note W (.agg #[.int .i64 0,.int .i64 0,.slice none 0 0]) noN:=⟨by decide,by decide,_,rfl,U8s.nil W⟩
end Ntc
namespace Ntc
open Go.RowKit Mem Oct Att
open Go.Lib (hid)
def rd2 (b:List Nat):Rd:=((Rd.mk b false).go 1).go 1
def readN (b:List Nat):No:=⟨((Rd.mk b false).num 1:Nat),(((Rd.mk b false).go 1).num 1:Nat),got (rd2 b).l (rd2 b).b (rd2 b).l.length⟩
def badN (b:List Nat):Bool:=fails (rd2 b).l (rd2 b).b (rd2 b).l.length
def okN (b:List Nat):Bool:=!badN b && goodN (readN b)
def outN (b:List Nat):No:=if okN b then readN b else noN
theorem ok_nil:okN []=false:=by decide
theorem ok_one (a:Nat):okN [a]=false:=by
 unfold okN badN rd2
 rw [(head_go a []).1]
 have h:fails ((Rd.mk [] false).go 1).l ((Rd.mk [] false).go 1).b (((Rd.mk [] false).go 1).l.length:Nat)=true:=by decide
 rw [h];rfl
theorem read_two (a c:Nat) (d:List Nat):readN (a :: c :: d)=⟨(a:Nat),(c:Nat),d⟩∧badN (a :: c :: d)=false:=by
 have h1:=head_go a (c :: d)
 have h2:=head_go c d
 have h3:=fit_go (l:=d) (n:=d.length) (Nat.le_refl _)
 have e:rd2 (a :: c :: d)=⟨d,false⟩:=by unfold rd2;rw [h1.1,h2.1]
 constructor
 ·unfold readN
  rw [e,h1.2,h1.1,h2.2]
  dsimp only
  rw [h3.2,List.take_length]
 ·unfold badN
  rw [e]
  exact congrArg Rd.b h3.1
theorem ok_two (a c:Nat) (d:List Nat):okN (a :: c :: d)=goodN ⟨(a:Nat),(c:Nat),d⟩:=by
 unfold okN
 rw [(read_two a c d).1,(read_two a c d).2];rfl
structure DeSt (w:World) (base n:Nat) (P:Value) (l:List Nat) (b:Bool) (F:Nat→Prop) (W:World):Prop where
 box:Box3 W w.heap.size 34 (.int .i64 0) (.int .i64 0) (.slice none 0 0)
 low:Below w.heap.size w W
 rd:R W base n P l b F
 lo:w.heap.size<base
 fr:From W P base
theorem DeSt.go {w W W2:World} {base n:Nat} {P:Value} {l l2:List Nat} {b b2:Bool} {F:Nat→Prop} (h:DeSt w base n P l b F W) (hR:R W2 base n P l2 b2 F) (ho:Only F W W2) (hk:FromK P W W2):DeSt w base n P l2 b2 F W2 :=
  ⟨h.box.below (fun k hk=>ho.block k (by rw [hk];exact h.box.lt) (fun hf=>by have:=(h.rd.low k hf).1;have:=h.lo;omega)),
   h.low.trans (ho.below (fun k hk=>by have:=(h.rd.low k hk).1;have:=h.lo;omega) h.low.size),hR,h.lo,hk _ h.fr⟩
def NoteA (n:Nat) (W:World) (v:Value) (x:No):Prop:=Note W v x∧∃ x0 x1 d,v=.agg #[x0,x1,d]∧∀ g,d.ownBlock=some g→n≤g
theorem u8_hold {n:Nat} {W W':World} {v:Value} {l:List Nat} (h:U8s W v l) (hA:∀ g,v.ownBlock=some g→n≤g) (hk:∀ k,k<W.heap.size→n≤k→W'.heap[k]?=W.heap[k]?) (hs:W.heap.size≤W'.heap.size):U8s W' v l:=by
 obtain ⟨⟨hl,A,c,rfl,hn,hc,hr⟩,hb⟩:=h
 refine ⟨⟨hl,A,c,rfl,hn,hc,fun h0=>?_⟩,hb⟩
 obtain ⟨b,off,rfl,hlt,hcell⟩:=hr h0
 exact ⟨b,off,rfl,Nat.lt_of_lt_of_le hlt hs,fun i x hx=>(World.cell?_of_block (hk b hlt (hA b rfl))).trans (hcell i x hx)⟩
theorem NoteA.off {n:Nat} {W W':World} {v:Value} {x:No} (h:NoteA n W v x) (hk:∀ k,k<W.heap.size→n≤k→W'.heap[k]?=W.heap[k]?) (hs:W.heap.size≤W'.heap.size):Note W' v x:=by
 obtain ⟨⟨q1,q2,vd,rfl,hd⟩,x0,x1,d,e,hA⟩:=h
 injection e with e
 obtain ⟨rfl,rfl,rfl⟩:_=x0∧_=x1∧vd=d:=by simpa using e
 exact ⟨q1,q2,vd,rfl,u8_hold hd hA hk hs⟩
def DecF2 (b:List Nat) (w:World) (e:Ending) (w':World):Prop:=∃ x,e=.returned (.tuple #[x,.bool (okN b)])∧NoteA w.heap.size w' x (outN b)∧Below w.heap.size w w'
def DecF (b:List Nat) (w:World) (e:Ending) (w':World):Prop:=∃ x,e=.returned (.tuple #[x,.bool (okN b)])∧Note w' x (outN b)∧Below w.heap.size w w'
theorem nat_wf {n:Nat} (h:n<256):(Lit.int .i64 (n:Nat)).wf=true:=by simp [Lit.wf,IntKind.min,IntKind.max,IntKind.signed,IntKind.bits];omega
theorem decode_from (v : Value) (b : List Nat) (w : World) (hv : U8s w v b) (hl : b.length ≤ 1000000) : Calls Tryz.prog 48 #[v] w (DecF2 b w) := by
  have HX:=hid (Box3.new w 34 (.int .i64 0) (.int .i64 0) (.slice none 0 0))
  have BB:=hid (ntc_box w (.int .i64 0) (.int .i64 0) (.slice none 0 0))
  have HS:=hid (show w.heap.size<(w.alloc (.cells #[.int .i64 0,.int .i64 0,.slice none 0 0] 34)).heap.size by simp)
  have CN:=hid (new_from v b _ (hv.keep BB.out) hl)
  obtain ⟨c0,c1,c2⟩:=HX.out.cells
  have ff:=HX.out.free
  have hs1:Small ((Rd.mk b false).go 1).l:=Rd.small (x:=⟨b,false⟩) hv.2 1
  have hn1:(Rd.mk b false).num 1<256:=num_lt (x:=⟨b,false⟩) hv.2 1
  have hn2:((Rd.mk b false).go 1).num 1<256:=num_lt (x:=(Rd.mk b false).go 1) hs1 1
  have hll : (rd2 b).l.length ≤ 1000000 := by
    unfold rd2 Rd.go rest
    dsimp only
    split
    · simp
    · split <;> simp <;> omega
  have CU:=hid (fun P base n F W (h:R W base n P b false F)=>show Calls Tryz.prog 82 #[P] W (fun e w'=>e=.returned (.int .i64 ((Rd.mk b false).num 1:Nat))∧R w' base n P ((Rd.mk b false).go 1).l ((Rd.mk b false).go 1).b F∧Only F W w'∧FromK P W w') from (u8_from P base n b false F W hv.2 h).mono fun _ _ ⟨⟨h1,h2,h3⟩,h4⟩=>⟨h1,h2,h3,h4⟩)
  have CV:=hid (fun P base n F W (h:R W base n P ((Rd.mk b false).go 1).l ((Rd.mk b false).go 1).b F)=>show Calls Tryz.prog 82 #[P] W (fun e w'=>e=.returned (.int .i64 (((Rd.mk b false).go 1).num 1:Nat))∧R w' base n P (rd2 b).l (rd2 b).b F∧Only F W w'∧FromK P W w') from (u8_from P base n _ _ F W hs1 h).mono fun _ _ ⟨⟨h1,h2,h3⟩,h4⟩=>⟨h1,h2,h3,h4⟩)
  have CR:=hid (fun P base n F W (h:R W base n P (rd2 b).l (rd2 b).b F)=>show Calls Tryz.prog 93 #[P] W (fun e w'=>∃ A c,e=.returned (.slice A (readN b).data.length c)∧U8s w' (.slice A (readN b).data.length c) (readN b).data∧R w' base n P (rest (rd2 b).l (rd2 b).b (rd2 b).l.length) (badN b) F∧Only F W w'∧FromK P W w'∧(∀ m,From W P m→∀ g,(Value.slice A (readN b).data.length c).ownBlock=some g→m≤g)) from (rest_from P base n _ _ F W hll h).mono fun _ _ ⟨A,c,h1,⟨h2,h3,h4⟩,h5⟩=>⟨A,c,h1,h2,h3,h4,fun m hm=>(h5 m hm).2,fun m hm=>(h5 m hm).1⟩)
  unfold readN at CR
  dsimp only at CR
  unfold DecF2 outN okN readN
  clear hv hl hs1 hll
  generalize badN b=B at CR ⊢
  generalize got (rd2 b).l (rd2 b).b (rd2 b).l.length=D at CR ⊢
  generalize rest (rd2 b).l (rd2 b).b (rd2 b).l.length=D2 at CR
  generalize rd2 b=y at CV CR
  generalize ((Rd.mk b false).go 1).num 1=V1 at CV hn2 ⊢
  generalize (Rd.mk b false).num 1=V0 at CU hn1 ⊢
  generalize (Rd.mk b false).go 1=z at CU CV
  have wf0:=hid (nat_wf hn1)
  have wf1:=hid (nat_wf hn2)
  have CB:=hid (fun P base n l F W (h:R W base n P l B F)=>bad_any P base n l B F W h)
  have CG:=hid (fun A c W (h:U8s W (.slice A D.length c) D)=>good_any (.agg #[.int .i64 (V0:Nat),.int .i64 (V1:Nat),.slice A D.length c]) ⟨(V0:Nat),(V1:Nat),D⟩ W ⟨wf0.out,wf1.out,_,rfl,h⟩)
  clear hn1 hn2
  generalize goodN ⟨(V0:Nat),(V1:Nat),D⟩=G at CG ⊢
  rcases B with _ | _ <;> rcases G with _ | _
  all_goals
    go_enter Tryz.func48,Tryz.ntmps48
    go_wp2_with (first
      | (have k:=T3.out;go_at_call 29;refine (CG.out _ _ _ U4.out).mono ?_;rintro e t ⟨rfl,hb⟩;have U5:=hid (U4.out.keep hb);have X5:=hid (And.intro (X4.out.1.keep hb) (And.intro (X4.out.2.1.trans (hb.mono X4.out.2.1.size)) (X4.out.2.2.keep hb)));clear U4 X4 hb p0 p1 p2 c0 c1 c2 ff;obtain ⟨c0,c1,c2⟩:=X5.out.1.cells;obtain ⟨p0,p1,p2⟩:=X5.out.2.2.cells;have ff:=X5.out.1.free)
      | (have h:=S3.out;go_at_call 85;refine (CB.out _ _ _ _ _ _ (h.rd.below (ntc_box _ _ _ _))).mono ?_;rintro e s ⟨rfl,hb⟩;have T3:=hid True.intro;have U4:=hid ((U3.out.keep (ntc_box _ _ _ _)).keep hb);have X4:=hid (And.intro ((h.box.keep (ntc_box _ _ _ _)).keep hb) (And.intro ((h.low.trans ((ntc_box _ _ _ _).mono h.low.size)).trans (hb.mono (h.low.trans ((ntc_box _ _ _ _).mono h.low.size)).size)) ((Box3.new _ _ _ _ _).keep hb)));clear S3 U3 h hb c0 c1 c2 ff;obtain ⟨c0,c1,c2⟩:=X4.out.1.cells;obtain ⟨p0,p1,p2⟩:=X4.out.2.2.cells;have ff:=X4.out.1.free)
      | (have h:=S2.out;go_at_call 93;refine (CR.out _ _ _ _ _ h.rd).mono ?_;rintro e s ⟨A,c,rfl,hU,hR,ho,hk,hA⟩;have S3:=hid (h.go hR ho hk);have U3:=hid hU;have A3:=hid (fun g hg=>Nat.le_trans (Nat.le_of_lt h.lo) (hA _ h.fr g hg));clear h hU hR ho hk hA S2 c0 c1 c2 ff;obtain ⟨c0,c1,c2⟩:=S3.out.box.cells;have ff:=S3.out.box.free)
      | (have h:=S1.out;go_at_call 82;refine (CV.out _ _ _ _ _ h.rd).mono ?_;rintro e s ⟨rfl,hR,ho,hk⟩;have S2:=hid (h.go hR ho hk);clear h hR ho hk S1 c0 c1 c2 ff;obtain ⟨c0,c1,c2⟩:=S2.out.box.cells;have ff:=S2.out.box.free)
      | (have h:=S0.out;go_at_call 82;refine (CU.out _ _ _ _ _ h.rd).mono ?_;rintro e s ⟨rfl,hR,ho,hk⟩;have S1:=hid (h.go hR ho hk);clear h hR ho hk S0 c0 c1 c2 ff;obtain ⟨c0,c1,c2⟩:=S1.out.box.cells;have ff:=S1.out.box.free)
      | (go_at_call 81;refine CN.out.mono ?_;rintro e s ⟨k,rfl,⟨hR,hb⟩,hfr⟩;have S0:=hid (DeSt.mk (HX.out.keep hb) (BB.out.trans (hb.mono BB.out.size)) hR HS.out hfr);clear hR hb hfr c0 c1 c2 ff;obtain ⟨c0,c1,c2⟩:=S0.out.box.cells;have ff:=S0.out.box.free))
    (try simp only [Exit.inBlock,Exit.then])
    try have X5:=X4
    first
      | (have r0 := (X5.out.1.set0 (.int .i64 0)).cells.1
         have r1:=((X5.out.1.set0 (.int .i64 0)).set1 (.int .i64 0)).cells.2.1
         have r2:=(X5.out.1.laid (.int .i64 0) (.int .i64 0) (.slice none 0 0)).cells.2.2
         unfold three at r2
         refine bodyPost_ret (v:=.tuple #[.agg #[.int .i64 0,.int .i64 0,.slice none 0 0],.bool false]) (by simp [results,Tryz.results48,go_sem,r0,r1,r2]) rfl ?_
         exact ⟨_,rfl,⟨note_zero _,_,_,_,rfl,fun g hg=>by cases hg⟩,three_low X5.out.2.1 _ (Nat.le_refl _) _ _ _⟩)
      | (have r0 := (X5.out.1.set0 (.int .i64 (V0 : Nat))).cells.1
         have r1:=((X5.out.1.set0 (.int .i64 (V0:Nat))).set1 (.int .i64 (V1:Nat))).cells.2.1
         have r2:=(X5.out.1.laid (.int .i64 (V0:Nat)) (.int .i64 (V1:Nat)) (.slice A D.length c)).cells.2.2
         unfold three at r2
         refine bodyPost_ret (v:=.tuple #[.agg #[.int .i64 (V0:Nat),.int .i64 (V1:Nat),.slice A D.length c],.bool true]) (by simp [results,Tryz.results48,go_sem,r0,r1,r2]) rfl ?_
         have ho:=three_off t w.heap.size (.int .i64 (V0:Nat)) (.int .i64 (V1:Nat)) (.slice A D.length c)
         exact ⟨_,rfl,⟨⟨wf0.out,wf1.out,_,rfl,u8_apart U5.out (X5.out.1.no8 (no8_i _) (no8_i _) (no8_s _ _ _)) ho.1 ho.2⟩,_,_,_,rfl,A3.out⟩,three_low X5.out.2.1 _ (Nat.le_refl _) _ _ _⟩)
end Ntc
namespace Frm
open Go.RowKit Mem Oct Att
open Go.Lib (hid)
theorem valid_any (k:Int) (w:World):Calls Tryz.prog 58 #[.int .i64 k] w (Tells (.bool (decide (1≤k∧k≤4))) w):=by
 have HB:=hid (Below.refl w.heap.size w)
 by_cases h:1≤k
 ·rw [show decide (1≤k∧k≤4)=decide (k≤4) from decide_eq_decide.2 (by omega)]
  have z:k ≥ 1:=h
  go_enter Tryz.func58,Tryz.ntmps58
  go_wp2
  go_ret
  exact ⟨rfl,HB.out⟩
 ·rw [decide_eq_false (show ¬ (1≤k∧k≤4) by omega)]
  have z:k<1:=by omega
  go_enter Tryz.func58,Tryz.ntmps58
  go_wp2
  go_ret
  exact ⟨rfl,HB.out⟩
theorem fits_any (T N:Nat) (w:World) (h1:1≤T) (h4:T≤4) (hN:19≤N):Calls Tryz.prog 129 #[.int .i64 T,.int .i64 N] w (Tells (.bool (!decide (N<leastH T∨(T=4∧19<N)))) w):=by
 have HB:=hid (Below.refl w.heap.size w)
 rcases (show T=1∨T=2∨T=3∨T=4 by omega) with rfl | rfl | rfl | rfl
 ·rw [show (!decide (N<leastH 1∨(1=4∧19<N)))=decide ((N:Int) ≥ 29) from by rw [← decide_not];exact decide_eq_decide.2 (by have:leastH 1=29:=rfl;omega)]
  go_enter Tryz.func129,Tryz.ntmps129
  go_wp2
  go_ret
  exact ⟨rfl,HB.out⟩
 ·rw [show (!decide (N<leastH 2∨(2=4∧19<N)))=decide ((N:Int) ≥ 23) from by rw [← decide_not];exact decide_eq_decide.2 (by have:leastH 2=23:=rfl;omega)]
  go_enter Tryz.func129,Tryz.ntmps129
  go_wp2
  go_ret
  exact ⟨rfl,HB.out⟩
 ·rw [show (!decide (N<leastH 3∨(3=4∧19<N)))=decide ((N:Int) ≥ 21) from by rw [← decide_not];exact decide_eq_decide.2 (by have:leastH 3=21:=rfl;omega)]
  go_enter Tryz.func129,Tryz.ntmps129
  go_wp2
  go_ret
  exact ⟨rfl,HB.out⟩
 ·rw [show (!decide (N<leastH 4∨(4=4∧19<N)))=decide ((N:Int)=19) from by rw [← decide_not];exact decide_eq_decide.2 (by have:leastH 4=19:=rfl;omega)]
  go_enter Tryz.func129,Tryz.ntmps129
  go_wp2
  go_ret
  exact ⟨rfl,HB.out⟩
theorem fault_any (s:Int) (A:Option Addr) (k c:Nat) (w:World):Calls Tryz.prog 128 #[.int .i64 s,.slice A k c] w (Tells (.agg #[.int .i64 1,.int .i64 s,.slice A k c]) w):=by
 have BB:=hid (box_low w (.int .i64 1) (.int .i64 s) (.slice A k c))
 go_enter Tryz.func128,Tryz.ntmps128
 go_wp2
 refine bodyPost_ret (v:=.agg #[.int .i64 1,.int .i64 s,.slice A k c]) (by simp [results,Tryz.results128,go_sem]) rfl ?_
 exact ⟨rfl,BB.out⟩
end Frm
namespace Opn
open Go.RowKit Mem Oct Att
theorem on_cases (l:List Nat):l=[]∨((onR ⟨l,false⟩).b=true∧0<l.length∧(∀ o,pars o l=.inl 0)∧(∀ o,caps o l=none)) ∨
  ∃ t m r,l=t :: m :: r∧m≤r.length∧onK ⟨l,false⟩=t∧onV ⟨l,false⟩=⟨r.take m,false⟩∧onR ⟨l,false⟩=⟨r.drop m,false⟩:=by
 match l with
 | []=>exact .inl rfl
 | [t] =>
  refine .inr (.inl ⟨?_,by simp,fun o=>pars_one o t,fun o=>caps_one o t⟩)
  unfold onR on2
  rw [(head_go t []).1]
  exact go_bad (go_nil 1 (by omega)) _
 | t :: m :: r =>
  have e1:=(head_go t (m :: r)).1
  have e2:on2 ⟨t :: m :: r,false⟩=⟨r,false⟩:=by unfold on2;rw [e1];exact (head_go m r).1
  have eK:onK ⟨t :: m :: r,false⟩=t:=(head_go t (m :: r)).2
  have eN:onN ⟨t :: m :: r,false⟩=m:=by unfold onN;rw [e1];exact (head_go m r).2
  by_cases h:m≤r.length
  ·refine .inr (.inr ⟨t,m,r,rfl,h,eK,?_,?_⟩)
   ·unfold onV
    rw [e2,eN]
    obtain ⟨g1,g2⟩:=fit_go h
    have hf:fails r false (m:Nat)=false:=by
     have:=congrArg Rd.b g1
     exact this
    dsimp only
    rw [g2,hf]
   ·unfold onR
    rw [e2,eN]
    exact (fit_go h).1
  ·refine .inr (.inl ⟨?_,by simp,fun o=>?_,fun o=>?_⟩)
   ·unfold onR
    rw [e2,eN]
    exact (go_short (by omega)).1
   ·rw [pars_two,if_neg h]
   ·rw [caps_step,if_neg h]
theorem four_go (D:List Nat):(D.length=4∧(Rd.mk D false).num 4=val D∧((Rd.mk D false).go 4).l.length=0)∨(D.length≠4∧((Rd.mk D false).num 4=0∨0<((Rd.mk D false).go 4).l.length)):=by
 by_cases h:4≤D.length
 ·obtain ⟨g1,g2⟩:=fit_go (l:=D) (n:=4) h
  have e2:(Rd.mk D false).num 4=val (D.take 4):=congrArg val g2
  have e1:((Rd.mk D false).go 4).l=D.drop 4:=congrArg Rd.l g1
  by_cases h4:D.length=4
  ·refine .inl ⟨h4,by rw [e2,List.take_of_length_le (by omega)],?_⟩
   rw [e1,List.length_drop];omega
  ·refine .inr ⟨h4,.inr ?_⟩
   rw [e1,List.length_drop];omega
 ·refine .inr ⟨by omega,.inl ?_⟩
  have hf:fails D false 4=true:=by simp [fails];omega
  show val (got D false 4)=0
  unfold got
  rw [hf,if_pos rfl];rfl
theorem R_apart {W W':World} {base n:Nat} {v:Value} {l:List Nat} {bad:Bool} {F:Nat→Prop} {B:Nat} (h:R W base n v l bad F) (hB:∀ i k,W.cell? ⟨B,i,none⟩≠some (.int .u8 k)) (hne:¬ F B) (hk:∀ k,k≠B→W'.heap[k]?=W.heap[k]?) (hs:W.heap.size≤W'.heap.size):R W' base n v l bad F:=by
 rcases h with h | ⟨b,s,h1,h2,h3,h4,h5,h6,h7,h8,rfl⟩
 ·exact .inl h
 ·exact .inr ⟨b,s,h1,h2,h3,Nat.le_trans h4 hs,(hk b (fun e=>hne e.symm)).trans h5,u8_apart h6 hB hk hs,h7,h8,rfl⟩
def rlen (W:World) (b:Nat):Nat:=match W.cell? ⟨b,0,none⟩ with
 | some (.slice _ n _)=>n
 | _=>0
theorem R_rlen {W:World} {base n b:Nat} {l:List Nat} {bad:Bool} {F:Nat→Prop} (h:R W base n (.pointer (some ⟨b,0,none⟩)) l bad F):rlen W b=l.length:=by
 rcases h with ⟨h,_⟩ | ⟨b',s,h1,h2,h3,h4,h5,h6,h7⟩
 ·cases h
 ·injection h1 with h1
  injection h1 with h1
  injection h1 with h1
  subst h1
  obtain ⟨A,c,rfl,-,-⟩:=h6.form
  unfold rlen
  rw [(cell0 h5).1]
theorem R_lt {W:World} {base n b:Nat} {l:List Nat} {bad:Bool} {F:Nat→Prop} (h:R W base n (.pointer (some ⟨b,0,none⟩)) l bad F):n≤W.heap.size:=by
 rcases h with ⟨h,_⟩ | ⟨b',s,h1,h2,h3,h4,h5⟩
 ·cases h
 ·exact h4
structure PrSt (w0:World) (base n br B:Nat) (x:Rd) (o:Op) (W:World):Prop where
 rd:R W base n (.pointer (some ⟨br,0,none⟩)) x.l x.b (fun k=>k=br)
 bo:Box4 W B 24 (.int .u32 o.an) (.int .i64 o.hold) (.int .u32 o.ri) (.bool o.four)
 rs:Box3 W w0.heap.size 34 (.int .i64 0) (.int .i64 0) (.slice none 0 0)
 on:Only (fun k=>k=br∨k=B) w0 W
 ge:n≤w0.heap.size∧B<w0.heap.size∧B≠br
section
variable {w0 W W2:World} {base n br B b2 n2:Nat} {x y z:Rd} {o:Op} {G:Nat→Prop}
theorem PrSt.brl (h:PrSt w0 base n br B x o W):br<w0.heap.size:=Nat.lt_of_lt_of_le (h.rd.low br rfl).2 h.ge.1
theorem PrSt.below (h:PrSt w0 base n br B x o W) (hb:Below W.heap.size W W2):PrSt w0 base n br B x o W2 :=
 ⟨h.rd.below hb,h.bo.keep hb,h.rs.keep hb,h.on.trans (Only.of hb),h.ge⟩
theorem PrSt.read (h:PrSt w0 base n br B x o W) (hr:R W2 base n (.pointer (some ⟨br,0,none⟩)) y.l y.b (fun k=>k=br)) (ho:Only (fun k=>k=br) W W2):PrSt w0 base n br B y o W2 :=
 ⟨hr,⟨(ho.block _ h.bo.lt h.ge.2.2).trans h.bo.blk⟩,⟨(ho.block _ h.rs.lt (fun e=>by have:=h.brl;omega)).trans h.rs.blk⟩,h.on.trans (ho.more fun k hk=>.inl hk),h.ge⟩
theorem PrSt.far (h:PrSt w0 base n br B x o W) (ho:Only G W W2) (hG:∀ k,G k→w0.heap.size<k):PrSt w0 base n br B x o W2 :=
 ⟨h.rd.far ho (fun k hk=>by have:=hG k hk;have:=h.ge.1;omega),⟨(ho.block _ h.bo.lt (fun hg=>by have:=hG _ hg;have:=h.ge.2.1;omega)).trans h.bo.blk⟩,⟨(ho.block _ h.rs.lt (fun hg=>by have:=hG _ hg;omega)).trans h.rs.blk⟩,
  ⟨ho.os.trans h.on.os,ho.tape.trans h.on.tape,ho.output.trans h.on.output,Nat.le_trans h.on.size ho.size,fun k hk hf=>(ho.block k (Nat.lt_of_lt_of_le hk h.on.size) (fun hg=>by have:=hG k hg;omega)).trans (h.on.block k hk hf)⟩,h.ge⟩
theorem PrSt.no8 (h:PrSt w0 base n br B x o W):∀ i k,W.cell? ⟨B,i,none⟩≠some (.int .u8 k):=h.bo.no8 (no8_u _) (no8_i _) (no8_u _) (no8_b _)
theorem set_off (W:World) (B i:Nat) (u:Value):(∀ k,k≠B→(W.setCell ⟨B,i,none⟩ u).heap[k]?=W.heap[k]?)∧W.heap.size≤(W.setCell ⟨B,i,none⟩ u).heap.size :=
 ⟨fun k hk=>Go.RowKit.Below.heap_setCell _ _ _ _ hk,by simp⟩
theorem PrSt.set3 (h:PrSt w0 base n br B x o W):PrSt w0 base n br B x ⟨o.an,o.hold,o.ri,true⟩ (W.setCell ⟨B,3,none⟩ (.bool true)) :=
 ⟨R_apart h.rd h.no8 h.ge.2.2 (set_off W B 3 _).1 (set_off W B 3 _).2,h.bo.set3 _,h.rs.far (by have:=h.ge.2.1;omega) _,h.on.set (.inr rfl) _,h.ge⟩
theorem PrSt.set0 (h:PrSt w0 base n br B x o W) (a:Nat):PrSt w0 base n br B x ⟨a,o.hold,o.ri,o.four⟩ (W.setCell ⟨B,0,none⟩ (.int .u32 a)) :=
 ⟨R_apart h.rd h.no8 h.ge.2.2 (set_off W B 0 _).1 (set_off W B 0 _).2,h.bo.set0 _,h.rs.far (by have:=h.ge.2.1;omega) _,h.on.set (.inr rfl) _,h.ge⟩
structure InSt (w0:World) (base n br B:Nat) (x:Rd) (b2 n2:Nat) (y:Rd) (o:Op) (W:World):Prop where
 pr:PrSt w0 base n br B x o W
 ls:R W (w0.heap.size+1) n2 (.pointer (some ⟨b2,0,none⟩)) y.l y.b (fun k=>k=b2)
theorem InSt.lt (h:InSt w0 base n br B x b2 n2 y o W):w0.heap.size<b2∧b2<n2∧n2≤W.heap.size :=
 ⟨(h.ls.low b2 rfl).1,(h.ls.low b2 rfl).2,R_lt h.ls⟩
theorem InSt.below (h:InSt w0 base n br B x b2 n2 y o W) (hb:Below W.heap.size W W2):InSt w0 base n br B x b2 n2 y o W2:=⟨h.pr.below hb,h.ls.below hb⟩
theorem InSt.read (h:InSt w0 base n br B x b2 n2 y o W) (hr:R W2 (w0.heap.size+1) n2 (.pointer (some ⟨b2,0,none⟩)) z.l z.b (fun k=>k=b2)) (ho:Only (fun k=>k=b2) W W2):InSt w0 base n br B x b2 n2 z o W2 :=
 ⟨h.pr.far ho (fun k hk=>by subst hk;exact h.lt.1),hr⟩
theorem InSt.start (h:PrSt w0 base n br B x o W) (hr:R W (w0.heap.size+1) n2 (.pointer (some ⟨b2,0,none⟩)) y.l y.b (fun k=>k=b2)):InSt w0 base n br B x b2 n2 y o W:=⟨h,hr⟩
structure VaSt (w0:World) (base n br B:Nat) (x:Rd) (b2 n2:Nat) (y:Rd) (b3 n3:Nat) (z:Rd) (o:Op) (W:World):Prop where
 ins:InSt w0 base n br B x b2 n2 y o W
 vl:R W n2 n3 (.pointer (some ⟨b3,0,none⟩)) z.l z.b (fun k=>k=b3)
theorem VaSt.ge {b3 n3:Nat} (h:VaSt w0 base n br B x b2 n2 y b3 n3 z o W):n2≤b3:=(h.vl.low b3 rfl).1
theorem VaSt.below {b3 n3:Nat} (h:VaSt w0 base n br B x b2 n2 y b3 n3 z o W) (hb:Below W.heap.size W W2):VaSt w0 base n br B x b2 n2 y b3 n3 z o W2:=⟨h.ins.below hb,h.vl.below hb⟩
theorem VaSt.read {b3 n3:Nat} {u:Rd} (h:VaSt w0 base n br B x b2 n2 y b3 n3 z o W) (hr:R W2 n2 n3 (.pointer (some ⟨b3,0,none⟩)) u.l u.b (fun k=>k=b3)) (ho:Only (fun k=>k=b3) W W2):VaSt w0 base n br B x b2 n2 y b3 n3 u o W2 :=
 ⟨⟨h.ins.pr.far ho (fun k hk=>by subst hk;have:=h.ge;have:=h.ins.lt;omega),h.ins.ls.far ho (fun k hk=>by subst hk;exact h.ge)⟩,hr⟩
theorem VaSt.set3 {b3 n3:Nat} (h:VaSt w0 base n br B x b2 n2 y b3 n3 z o W):VaSt w0 base n br B x b2 n2 y b3 n3 z ⟨o.an,o.hold,o.ri,true⟩ (W.setCell ⟨B,3,none⟩ (.bool true)) :=
 ⟨⟨h.ins.pr.set3,R_apart h.ins.ls h.ins.pr.no8 (fun e=>by have:=h.ins.lt;have:=h.ins.pr.ge.2.1;omega) (set_off W B 3 _).1 (set_off W B 3 _).2⟩,R_apart h.vl h.ins.pr.no8 (fun e=>by have:=h.ge;have:=h.ins.lt;have:=h.ins.pr.ge.2.1;omega) (set_off W B 3 _).1 (set_off W B 3 _).2⟩
theorem VaSt.set0 {b3 n3:Nat} (h:VaSt w0 base n br B x b2 n2 y b3 n3 z o W) (a:Nat):VaSt w0 base n br B x b2 n2 y b3 n3 z ⟨a,o.hold,o.ri,o.four⟩ (W.setCell ⟨B,0,none⟩ (.int .u32 a)) :=
 ⟨⟨h.ins.pr.set0 a,R_apart h.ins.ls h.ins.pr.no8 (fun e=>by have:=h.ins.lt;have:=h.ins.pr.ge.2.1;omega) (set_off W B 0 _).1 (set_off W B 0 _).2⟩,R_apart h.vl h.ins.pr.no8 (fun e=>by have:=h.ge;have:=h.ins.lt;have:=h.ins.pr.ge.2.1;omega) (set_off W B 0 _).1 (set_off W B 0 _).2⟩
end
theorem PrSt.start {w:World} {base n br B:Nat} {x:Rd} {o:Op} (hR:R w base n (.pointer (some ⟨br,0,none⟩)) x.l x.b (fun k=>k=br)) (hB:Box4 w B 24 (.int .u32 o.an) (.int .i64 o.hold) (.int .u32 o.ri) (.bool o.four)) (hn:n≤w.heap.size) (hne:B≠br) :
  PrSt w base n br B x o (w.alloc (.cells #[.int .i64 0,.int .i64 0,.slice none 0 0] 34)):=by
 have hb:Below w.heap.size w (w.alloc (.cells #[.int .i64 0,.int .i64 0,.slice none 0 0] 34)):=(Below.refl _ w).alloc (Nat.le_refl _) _
 exact ⟨hR.below hb,hB.keep hb,Box3.new _ _ _ _ _,Only.of hb,hn,hB.lt,hne⟩
def ReadF (B br:Nat) (o:Op) (l:List Nat) (w:World) (e:Ending) (w':World):Prop :=
 Only (fun k=>k=br∨k=B) w w'∧((∃ o2,pars o l=.inr o2∧e=.returned (.agg #[.int .i64 0,.int .i64 0,.slice none 0 0])∧Box4 w' B 24 (.int .u32 o2.an) (.int .i64 o2.hold) (.int .u32 o2.ri) (.bool o2.four)) ∨
  ∃ s:Nat,pars o l=.inl s∧(s=0∨s=4)∧e=.returned (.agg #[.int .i64 2,.int .i64 s,.slice none 0 0]))
theorem PrSt.fin {w W:World} {base n br B:Nat} {x:Rd} {o:Op} (h:PrSt w base n br B x o W) (a b c:Value):Only (fun k=>k=br∨k=B) w (three W w.heap.size a b c)∧Box4 (three W w.heap.size a b c) B 24 (.int .u32 o.an) (.int .i64 o.hold) (.int .u32 o.ri) (.bool o.four):=by
 have ho:=three_off W w.heap.size a b c
 exact ⟨⟨h.on.os,h.on.tape,h.on.output,Nat.le_trans h.on.size ho.2,fun k hk hf=>(ho.1 k (by omega)).trans (h.on.block k hk hf)⟩,⟨(ho.1 B (by have:=h.ge.2.1;omega)).trans h.bo.blk⟩⟩
end Opn
namespace Opn
open Go.RowKit Mem Oct Att Ahead
theorem read_any (base n br B:Nat) (l:List Nat) (o:Op) (w:World) (hs:Small l) (hR:R w base n (.pointer (some ⟨br,0,none⟩)) l false (fun k=>k=br)) (hB:Box4 w B 24 (.int .u32 o.an) (.int .i64 o.hold) (.int .u32 o.ri) (.bool o.four)) (hn:n≤w.heap.size) (hne:B≠br) :
  Calls Tryz.prog 88 #[.pointer (some ⟨br,0,none⟩),.pointer (some ⟨B,0,none⟩)] w (ReadF B br o l w):=by
 have S0:=hid (PrSt.start (x:=⟨l,false⟩) hR hB hn hne)
 have HS:=hid hs
 have CF:=hid fault_any
 have CNX:=hid onext_any
 have CL:=hid left_any
 have CB:=hid bad_any
 have CU:=hid u32_any
 clear hs hR hB hn hne
 go_enter Tryz.func88,Tryz.ntmps88
 go_wp2
 refine wp_scope_ahead 0 (by rfl) ?_
 go_wp2
 go_loopw [5,6,7,8] (fun _ _ _ _ wx=>∃ (lx:List Nat) (o1:Op),Hid (pars o l=pars o1 lx∧Small lx)∧Hid (PrSt w base n br B ⟨lx,false⟩ o1 wx)) (fun _ _ _ _ wx=>rlen wx br)
 case atStart=>exact ⟨l,o,hid ⟨rfl,HS.out⟩,S0⟩
 case round =>
  clear S0
  obtain ⟨lx,o1,HI,S1⟩:=hrel
  have CLX:=hid (CL.out _ _ _ _ _ _ _ S1.out.rd)
  rcases on_cases lx with hl | ⟨hbad,hpos,hp,-⟩ | ⟨t,m,r,hl,hm,eK,eV,eR⟩
  ·have HD:=hid (show pars o l=.inr o1 from by rw [HI.out.1,hl];exact pars_nil o1)
   have zl:((lx.length:Nat):Int)=0:=by rw [hl];rfl
   rw [show (Rd.mk lx false).l.length=lx.length from rfl,zl] at CLX
   clear hl zl
   go_wp2_with (go_at_call 87;(refine (CLX.out).mono ?_;rintro e z ⟨rfl,hb⟩;have S2:=hid (S1.out.below hb);clear hb;obtain ⟨f0,f1,f2⟩:=S2.out.rs.cells;have fr:=S2.out.rs.free))
   rw [jump_ret]
   (try simp only [Exit.inBlock,Exit.then])
   obtain ⟨r0,r1,r2⟩:=(S2.out.rs.laid (.int .i64 0) (.int .i64 0) (.slice none 0 0)).cells
   unfold three at r0 r1 r2
   refine bodyPost_ret (v:=.agg #[.int .i64 0,.int .i64 0,.slice none 0 0]) (by simp [results,Tryz.results88,go_sem,r0,r1,r2]) rfl ?_
   obtain ⟨k1,k2⟩:=S2.out.fin (.int .i64 0) (.int .i64 0) (.slice none 0 0)
   exact ⟨k1,.inl ⟨o1,HD.out,rfl,k2⟩⟩
  ·have HD:=hid (show pars o l=.inl 0 from by rw [HI.out.1];exact hp o1)
   have zl:(0:Int)<((Rd.mk lx false).l.length:Int):=by show (0:Int)<(lx.length:Int);omega
   have CX:=hid (fun W h=>CNX.out (.pointer (some ⟨br,0,none⟩)) base n ⟨lx,false⟩ (fun k=>k=br) W HI.out.2 h)
   obtain ⟨Y,hY⟩:∃ Y,Y=onR ⟨lx,false⟩:=⟨_,rfl⟩
   have HY:=hid hY
   have CBX:=hid (fun W (h:R W base n (.pointer (some ⟨br,0,none⟩)) Y.l true (fun k=>k=br))=>CB.out _ _ _ _ _ _ W h)
   have HYB:=hid (show Y.b=true from by rw [hY];exact hbad)
   generalize (Rd.mk lx false).l.length=L at CLX zl
   clear hbad hpos hp hY
   go_wp2_with (first
    | (go_at_call 87;(refine (CLX.out).mono ?_;rintro e z ⟨rfl,hb⟩;have S2:=hid (S1.out.below hb);clear hb))
    | (have h:=S2.out;go_at_call 131;(refine (CX.out _ h.rd (Nat.le_trans h.ge.1 h.on.size)).mono ?_;rintro e z ⟨b2,rfl,hb2,hV,hR,ho⟩;rw [← HY.out] at hR;have S3:=hid (h.read (y:=Y) hR ho);clear hb2 hV hR ho h S2))
    | (have h:=S3.out;go_at_call 85;(have hr:=h.rd;rw [HYB.out] at hr;refine (CBX.out _ hr).mono ?_;rintro e z ⟨rfl,hb⟩;have S4:=hid (h.below hb);clear hb hr h S3)))
   go_step3
   refine ⟨rfl,?_⟩
   go_wp2_with (have h:=S4.out;go_at_call 86;(refine (CF.out _ _ _ _ _).mono ?_;rintro e z ⟨rfl,hb⟩;have SZ:=hid (h.below hb);clear hb h;obtain ⟨f0,f1,f2⟩:=SZ.out.rs.cells;have fr:=SZ.out.rs.free))
   rw [Exit.noGoto_ret]
   (try simp only [Exit.inBlock,Exit.then])
   obtain ⟨r0,r1,r2⟩:=(SZ.out.rs.laid (.int .i64 2) (.int .i64 0) (.slice none 0 0)).cells
   unfold three at r0 r1 r2
   refine bodyPost_ret (v:=.agg #[.int .i64 2,.int .i64 0,.slice none 0 0]) (by simp [results,Tryz.results88,go_sem,r0,r1,r2]) rfl ?_
   obtain ⟨k1,k2⟩:=SZ.out.fin (.int .i64 2) (.int .i64 0) (.slice none 0 0)
   exact ⟨k1,.inr ⟨0,HD.out,.inl rfl,rfl⟩⟩
  ·have zl:(0:Int)<((Rd.mk lx false).l.length:Int):=by show (0:Int)<(lx.length:Int);rw [hl];simp only [List.length_cons];omega
   have HM:=hid (show rlen wr br=lx.length from R_rlen S1.out.rd)
   obtain ⟨lr,hlr⟩:∃ lr,lr=r.drop m:=⟨_,rfl⟩
   obtain ⟨ll,hll⟩:∃ ll,ll=r.take m:=⟨_,rfl⟩
   have hSr:Small r:=fun x hx=>HI.out.2 x (by rw [hl];simp [hx])
   have HSR:=hid (show Small lr from by rw [hlr];exact hSr.drop m)
   have HSL:=hid (show Small ll from by rw [hll];exact hSr.take m)
   have HLL:=hid (show lr.length<lx.length from by rw [hlr,hl,List.length_drop];simp;omega)
   have HP:=hid (show pars o l=if t=2 then thenO (caps o1 ll) (fun o2=>pars o2 lr) else .inl 4 from by rw [HI.out.1,hl,pars_two,if_pos hm,hll,hlr])
   have CX:=hid (fun W (h:R W base n (.pointer (some ⟨br,0,none⟩)) lx false (fun k=>k=br)) (hn:n≤W.heap.size)=>show Calls Tryz.prog 131 #[.pointer (some ⟨br,0,none⟩)] W (fun e w'=>∃ b,e=.returned (.tuple #[.int .i64 t,.pointer (some ⟨b,0,none⟩)])∧W.heap.size≤b∧R w' W.heap.size w'.heap.size (.pointer (some ⟨b,0,none⟩)) ll false (fun k=>k=b)∧R w' base n (.pointer (some ⟨br,0,none⟩)) lr false (fun k=>k=br)∧Only (fun k=>k=br) W w') from by
    have h1:=CNX.out (.pointer (some ⟨br,0,none⟩)) base n ⟨lx,false⟩ (fun k=>k=br) W HI.out.2 h hn
    unfold NextF at h1
    rw [eK,eV,eR] at h1
    rw [hll,hlr]
    exact h1)
   have CBX:=hid (fun W (h:R W base n (.pointer (some ⟨br,0,none⟩)) lr false (fun k=>k=br))=>CB.out _ _ _ _ _ _ W h)
   generalize (Rd.mk lx false).l.length=L at CLX zl
   clear hl hm eK eV eR hlr hll hSr
   by_cases ht:t=2
   ·subst ht
    have H0:=hid (show pars o l=thenO (caps o1 ll) (fun o3=>pars o3 lr)∧Small ll from ⟨HP.out,HSL.out⟩)
    go_wp2_with (first
     | (go_at_call 87;(refine (CLX.out).mono ?_;rintro e z ⟨rfl,hb⟩;have S2:=hid (S1.out.below hb);clear hb))
     | (have h:=S2.out;go_at_call 131;(refine (CX.out _ h.rd (Nat.le_trans h.ge.1 h.on.size)).mono ?_;rintro e z ⟨b2,rfl,hb2,hV,hR,ho⟩;have hsz:=h.rs.lt;have S3:=hid (And.intro (h.read (y:=⟨lr,false⟩) hR ho) (R_base hV (show w.heap.size+1≤_ from hsz)));clear hb2 hV hR ho h S2 hsz))
     | (have h:=S3.out;go_at_call 85;(refine (CBX.out _ h.1.rd).mono ?_;rintro e z2 ⟨rfl,hb⟩;have S4:=hid (InSt.start (y:=⟨ll,false⟩) (h.1.below hb) (h.2.below hb));clear hb h S3)))
    go_loopw [7,8] (fun _ _ wx=>∃ (ly:List Nat) (o2:Op),Hid (pars o l=thenO (caps o2 ly) (fun o3=>pars o3 lr)∧Small ly)∧Hid (InSt w base n br B ⟨lr,false⟩ b2 z.heap.size ⟨ly,false⟩ o2 wx)) (fun _ _ wx=>rlen wx b2)
    case atStart=>exact ⟨ll,o1,H0,S4⟩
    case round =>
     clear S4 H0
     obtain ⟨ly,o2,HI2,I1⟩:=hrel
     have CL2:=hid (CL.out _ _ _ _ _ _ _ I1.out.ls)
     have HM2:=hid (R_rlen I1.out.ls)
     rcases on_cases ly with hl2 | ⟨hbad,hpos,-,hp⟩ | ⟨t,m,r,hl2,hm,eK,eV,eR⟩
     ·have HN:=hid (show pars o l=pars o2 lr from by rw [HI2.out.1,hl2,caps_nil];rfl)
      have zl:((ly.length:Nat):Int)=0:=by rw [hl2];rfl
      rw [show (Rd.mk ly false).l.length=ly.length from rfl,zl] at CL2
      clear hl2 zl
      go_wp2_with (first
       | (have h:=I1.out;go_at_call 87;(refine (CL2.out).mono ?_;rintro e q1 ⟨rfl,hb⟩;have I2:=hid (h.below hb);clear hb h I1)))
      go_roundw
      case rel=>exact ⟨lr,o2,hid ⟨HN.out,HSR.out⟩,hid I2.out.pr⟩
      case measure =>
       have e1:=R_rlen I2.out.pr.rd
       have e2:=HM.out
       have e3:=HLL.out
       rw [e1,e2]
       exact e3
     ·have HD:=hid (show pars o l=.inl 0 from by rw [HI2.out.1,hp o2];rfl)
      have zl:(0:Int)<((Rd.mk ly false).l.length:Int):=by show (0:Int)<(ly.length:Int);omega
      have CX2:=hid (fun W h=>CNX.out (.pointer (some ⟨b2,0,none⟩)) (w.heap.size+1) z.heap.size ⟨ly,false⟩ (fun k=>k=b2) W HI2.out.2 h)
      obtain ⟨Y,hY⟩:∃ Y,Y=onR ⟨ly,false⟩:=⟨_,rfl⟩
      have HY:=hid hY
      have CB2:=hid (fun W (h:R W (w.heap.size+1) z.heap.size (.pointer (some ⟨b2,0,none⟩)) Y.l true (fun k=>k=b2))=>CB.out _ _ _ _ _ _ W h)
      have HYB:=hid (show Y.b=true from by rw [hY];exact hbad)
      generalize (Rd.mk ly false).l.length=L at CL2 zl
      clear hbad hpos hp hY
      go_wp2_with (first
       | (have h:=I1.out;go_at_call 87;(refine (CL2.out).mono ?_;rintro e q1 ⟨rfl,hb⟩;have I2:=hid (h.below hb);clear hb h I1))
       | (have h:=I2.out;go_at_call 131;(refine (CX2.out _ h.ls h.lt.2.2).mono ?_;rintro e q2 ⟨b3,rfl,hb3,hV,hR,ho⟩;rw [← HY.out] at hR;have I3:=hid (h.read (z:=Y) hR ho);clear hb3 hV hR ho h I2))
       | (have h:=I3.out;go_at_call 85;(have hr:=h.ls;rw [HYB.out] at hr;refine (CB2.out _ hr).mono ?_;rintro e q3 ⟨rfl,hb⟩;have I4:=hid (h.below hb);clear hb hr h I3)))
      go_step3
      refine ⟨rfl,?_⟩
      go_wp2_with (have h:=I4.out;go_at_call 86;(refine (CF.out _ _ _ _ _).mono ?_;rintro e z ⟨rfl,hb⟩;have SZ:=hid (h.pr.below hb);clear hb h;obtain ⟨f0,f1,f2⟩:=SZ.out.rs.cells;have fr:=SZ.out.rs.free))
      rw [Exit.noGoto_ret]
      (try simp only [Exit.inBlock,Exit.then])
      obtain ⟨r0,r1,r2⟩:=(SZ.out.rs.laid (.int .i64 2) (.int .i64 0) (.slice none 0 0)).cells
      unfold three at r0 r1 r2
      refine bodyPost_ret (v:=.agg #[.int .i64 2,.int .i64 0,.slice none 0 0]) (by simp [results,Tryz.results88,go_sem,r0,r1,r2]) rfl ?_
      obtain ⟨k1,k2⟩:=SZ.out.fin (.int .i64 2) (.int .i64 0) (.slice none 0 0)
      exact ⟨k1,.inr ⟨0,HD.out,.inl rfl,rfl⟩⟩
     ·have zl:(0:Int)<((Rd.mk ly false).l.length:Int):=by show (0:Int)<(ly.length:Int);rw [hl2];simp only [List.length_cons];omega
      obtain ⟨lz,hlz⟩:∃ lz,lz=r.drop m:=⟨_,rfl⟩
      obtain ⟨D,hD⟩:∃ D,D=r.take m:=⟨_,rfl⟩
      have hSr:Small r:=fun x hx=>HI2.out.2 x (by rw [hl2];simp [hx])
      have HSZ:=hid (show Small lz from by rw [hlz];exact hSr.drop m)
      have HSD:=hid (show Small D from by rw [hD];exact hSr.take m)
      have HLZ:=hid (show lz.length<ly.length from by rw [hlz,hl2,List.length_drop];simp;omega)
      have hDL:D.length=m:=by rw [hD,List.length_take];omega
      have HC:=hid (show caps o2 ly=if t=65 then (if m=4∧val D≠0 then caps ⟨val D,o2.hold,o2.ri,true⟩ lz else none) else caps o2 lz from by rw [hl2,caps_step,if_pos hm,← hD,← hlz])
      have CX2:=hid (fun W (h:R W (w.heap.size+1) z.heap.size (.pointer (some ⟨b2,0,none⟩)) ly false (fun k=>k=b2)) (hn:z.heap.size≤W.heap.size)=>show Calls Tryz.prog 131 #[.pointer (some ⟨b2,0,none⟩)] W (fun e w'=>∃ b,e=.returned (.tuple #[.int .i64 t,.pointer (some ⟨b,0,none⟩)])∧W.heap.size≤b∧R w' W.heap.size w'.heap.size (.pointer (some ⟨b,0,none⟩)) D false (fun k=>k=b)∧R w' (w.heap.size+1) z.heap.size (.pointer (some ⟨b2,0,none⟩)) lz false (fun k=>k=b2)∧Only (fun k=>k=b2) W w') from by
       have h1:=CNX.out (.pointer (some ⟨b2,0,none⟩)) (w.heap.size+1) z.heap.size ⟨ly,false⟩ (fun k=>k=b2) W HI2.out.2 h hn
       unfold NextF at h1
       rw [eK,eV,eR] at h1
       rw [hD,hlz]
       exact h1)
      have CB2:=hid (fun W (h:R W (w.heap.size+1) z.heap.size (.pointer (some ⟨b2,0,none⟩)) lz false (fun k=>k=b2))=>CB.out _ _ _ _ _ _ W h)
      generalize (Rd.mk ly false).l.length=L at CL2 zl
      clear hl2 hm eK eV eR hlz hD hSr
      by_cases ht:t=65
      ·subst ht
       obtain ⟨N,hN⟩:∃ N,N=(Rd.mk D false).num 4:=⟨_,rfl⟩
       obtain ⟨Z,hZ⟩:∃ Z,Z=(Rd.mk D false).go 4:=⟨_,rfl⟩
       have CU2:=hid (fun b3 n3 W (h:R W z.heap.size n3 (.pointer (some ⟨b3,0,none⟩)) D false (fun k=>k=b3))=>show Calls Tryz.prog 84 #[.pointer (some ⟨b3,0,none⟩)] W (fun e w'=>e=.returned (.int .u32 N)∧R w' z.heap.size n3 (.pointer (some ⟨b3,0,none⟩)) Z.l Z.b (fun k=>k=b3)∧Only (fun k=>k=b3) W w') from by
        rw [hN,hZ]
        exact CU.out _ _ _ D false _ W HSD.out h)
       have CL3:=hid (fun b3 n3 W (h:R W z.heap.size n3 (.pointer (some ⟨b3,0,none⟩)) Z.l Z.b (fun k=>k=b3))=>CL.out _ _ _ _ _ _ W h)
       have hfg:=four_go D
       rw [← hN,← hZ] at hfg
       have hN4:N<4294967296:=by rw [hN];exact num_lt (x:=⟨D,false⟩) HSD.out 4
       clear hN hZ
       by_cases hN0:N=0
       ·have y3:((N:Int) == 0)=true:=by simp [hN0]
        have HD:=hid (show pars o l=.inl 0 from by
         have hno:¬ (m=4∧val D≠0):=by
          rintro ⟨e4,ev⟩
          rcases hfg with ⟨_,e,_⟩ | ⟨e,_⟩
          ·exact ev (e.symm.trans hN0)
          ·omega
         rw [HI2.out.1,HC.out,if_pos rfl,if_neg hno];rfl)
        clear hN0 hfg hDL
        go_wp2_with (first
         | (have h:=I1.out;go_at_call 87;(refine (CL2.out).mono ?_;rintro e q1 ⟨rfl,hb⟩;have I2:=hid (h.below hb);clear hb h I1))
         | (have h:=I2.out;go_at_call 131;(refine (CX2.out _ h.ls h.lt.2.2).mono ?_;rintro e q2 ⟨b3,rfl,hb3,hV,hR,ho⟩;have I3:=hid (VaSt.mk (z:=⟨D,false⟩) (h.read (z:=⟨lz,false⟩) hR ho) (R_base hV h.lt.2.2));clear hb3 hV hR ho h I2))
         | (have h:=I3.out;go_at_call 85;(refine (CB2.out _ h.ins.ls).mono ?_;rintro e q3 ⟨rfl,hb⟩;have I4:=hid (h.below hb);clear hb h I3;obtain ⟨c0,c1,c2,c3⟩:=I4.out.ins.pr.bo.cells;have fo:=I4.out.ins.pr.bo.free;have I5:=hid I4.out.set3))
         | (have h:=I5.out;go_at_call 84;(refine (CU2.out _ _ _ h.vl).mono ?_;rintro e q4 ⟨rfl,hR,ho⟩;have I6:=hid (h.read (u:=Z) hR ho);clear hR ho h I5 I4 c0 c1 c2 c3 fo;obtain ⟨c0,c1,c2,c3⟩:=I6.out.ins.pr.bo.cells;have fo:=I6.out.ins.pr.bo.free;have I7:=hid (I6.out.set0 N);obtain ⟨d0,d1,d2,d3⟩:=I7.out.ins.pr.bo.cells)))
        go_step3
        refine ⟨rfl,?_⟩
        go_wp2_with (have h:=I7.out;go_at_call 86;(refine (CF.out _ _ _ _ _).mono ?_;rintro e z ⟨rfl,hb⟩;have SZ:=hid (h.ins.pr.below hb);clear hb h;obtain ⟨f0,f1,f2⟩:=SZ.out.rs.cells;have fr:=SZ.out.rs.free))
        rw [Exit.noGoto_ret]
        (try simp only [Exit.inBlock,Exit.then])
        obtain ⟨r0,r1,r2⟩:=(SZ.out.rs.laid (.int .i64 2) (.int .i64 0) (.slice none 0 0)).cells
        unfold three at r0 r1 r2
        refine bodyPost_ret (v:=.agg #[.int .i64 2,.int .i64 0,.slice none 0 0]) (by simp [results,Tryz.results88,go_sem,r0,r1,r2]) rfl ?_
        obtain ⟨k1,k2⟩:=SZ.out.fin (.int .i64 2) (.int .i64 0) (.slice none 0 0)
        exact ⟨k1,.inr ⟨0,HD.out,.inl rfl,rfl⟩⟩
       have y3:((N:Int) == 0)=false:=by simp;omega
       rcases Nat.eq_zero_or_pos Z.l.length with hz | hz
       ·have HN:=hid (show pars o l=thenO (caps ⟨N,o2.hold,o2.ri,true⟩ lz) (fun o3=>pars o3 lr) from by
         rcases hfg with ⟨e4,e,_⟩ | ⟨_,e | e⟩
         ·rw [HI2.out.1,HC.out,if_pos rfl,if_pos ⟨by omega,by rw [← e];exact hN0⟩,e]
         ·exact absurd e hN0
         ·omega)
        have zz:((Z.l.length:Nat):Int)=0:=by rw [hz];rfl
        simp only [zz] at CL3
        clear hN0 hfg hDL hz zz
        go_wp2_with (first
         | (have h:=I1.out;go_at_call 87;(refine (CL2.out).mono ?_;rintro e q1 ⟨rfl,hb⟩;have I2:=hid (h.below hb);clear hb h I1))
         | (have h:=I2.out;go_at_call 131;(refine (CX2.out _ h.ls h.lt.2.2).mono ?_;rintro e q2 ⟨b3,rfl,hb3,hV,hR,ho⟩;have I3:=hid (VaSt.mk (z:=⟨D,false⟩) (h.read (z:=⟨lz,false⟩) hR ho) (R_base hV h.lt.2.2));clear hb3 hV hR ho h I2))
         | (have h:=I3.out;go_at_call 85;(refine (CB2.out _ h.ins.ls).mono ?_;rintro e q3 ⟨rfl,hb⟩;have I4:=hid (h.below hb);clear hb h I3;obtain ⟨c0,c1,c2,c3⟩:=I4.out.ins.pr.bo.cells;have fo:=I4.out.ins.pr.bo.free;have I5:=hid I4.out.set3))
         | (have h:=I5.out;go_at_call 84;(refine (CU2.out _ _ _ h.vl).mono ?_;rintro e q4 ⟨rfl,hR,ho⟩;have I6:=hid (h.read (u:=Z) hR ho);clear hR ho h I5 I4 c0 c1 c2 c3 fo;obtain ⟨c0,c1,c2,c3⟩:=I6.out.ins.pr.bo.cells;have fo:=I6.out.ins.pr.bo.free;have I7:=hid (I6.out.set0 N);obtain ⟨d0,d1,d2,d3⟩:=I7.out.ins.pr.bo.cells))
         | (have h:=I7.out;go_at_call 87;(refine (CL3.out _ _ _ h.vl).mono ?_;rintro e q5 ⟨rfl,hb⟩;have I8:=hid (h.below hb);clear hb h)))
        go_roundw
        case rel=>exact ⟨lz,_,hid ⟨HN.out,HSZ.out⟩,hid I8.out.ins⟩
        case measure =>
         have e1:=R_rlen I8.out.ins.ls
         have e2:=HM2.out
         have e3:=HLZ.out
         rw [e1,e2]
         exact e3
       ·have HD:=hid (show pars o l=.inl 0 from by
         have hno:¬ (m=4∧val D≠0):=by
          rintro ⟨e4,ev⟩
          rcases hfg with ⟨_,_,e⟩ | ⟨e,_⟩
          ·omega
          ·omega
         rw [HI2.out.1,HC.out,if_pos rfl,if_neg hno];rfl)
        have zz:(0:Int)<(Z.l.length:Int):=by omega
        generalize Z.l.length=L3 at CL3 zz
        clear hN0 hfg hDL hz
        go_wp2_with (first
         | (have h:=I1.out;go_at_call 87;(refine (CL2.out).mono ?_;rintro e q1 ⟨rfl,hb⟩;have I2:=hid (h.below hb);clear hb h I1))
         | (have h:=I2.out;go_at_call 131;(refine (CX2.out _ h.ls h.lt.2.2).mono ?_;rintro e q2 ⟨b3,rfl,hb3,hV,hR,ho⟩;have I3:=hid (VaSt.mk (z:=⟨D,false⟩) (h.read (z:=⟨lz,false⟩) hR ho) (R_base hV h.lt.2.2));clear hb3 hV hR ho h I2))
         | (have h:=I3.out;go_at_call 85;(refine (CB2.out _ h.ins.ls).mono ?_;rintro e q3 ⟨rfl,hb⟩;have I4:=hid (h.below hb);clear hb h I3;obtain ⟨c0,c1,c2,c3⟩:=I4.out.ins.pr.bo.cells;have fo:=I4.out.ins.pr.bo.free;have I5:=hid I4.out.set3))
         | (have h:=I5.out;go_at_call 84;(refine (CU2.out _ _ _ h.vl).mono ?_;rintro e q4 ⟨rfl,hR,ho⟩;have I6:=hid (h.read (u:=Z) hR ho);clear hR ho h I5 I4 c0 c1 c2 c3 fo;obtain ⟨c0,c1,c2,c3⟩:=I6.out.ins.pr.bo.cells;have fo:=I6.out.ins.pr.bo.free;have I7:=hid (I6.out.set0 N);obtain ⟨d0,d1,d2,d3⟩:=I7.out.ins.pr.bo.cells))
         | (have h:=I7.out;go_at_call 87;(refine (CL3.out _ _ _ h.vl).mono ?_;rintro e q5 ⟨rfl,hb⟩;have I8:=hid (h.below hb);clear hb h)))
        go_step3
        refine ⟨rfl,?_⟩
        go_wp2_with (have h:=I8.out;go_at_call 86;(refine (CF.out _ _ _ _ _).mono ?_;rintro e z ⟨rfl,hb⟩;have SZ:=hid (h.ins.pr.below hb);clear hb h;obtain ⟨f0,f1,f2⟩:=SZ.out.rs.cells;have fr:=SZ.out.rs.free))
        rw [Exit.noGoto_ret]
        (try simp only [Exit.inBlock,Exit.then])
        obtain ⟨r0,r1,r2⟩:=(SZ.out.rs.laid (.int .i64 2) (.int .i64 0) (.slice none 0 0)).cells
        unfold three at r0 r1 r2
        refine bodyPost_ret (v:=.agg #[.int .i64 2,.int .i64 0,.slice none 0 0]) (by simp [results,Tryz.results88,go_sem,r0,r1,r2]) rfl ?_
        obtain ⟨k1,k2⟩:=SZ.out.fin (.int .i64 2) (.int .i64 0) (.slice none 0 0)
        exact ⟨k1,.inr ⟨0,HD.out,.inl rfl,rfl⟩⟩
      ·have y2:((t:Int) != 65)=true:=by simp;omega
       have HN:=hid (show pars o l=thenO (caps o2 lz) (fun o3=>pars o3 lr) from by rw [HI2.out.1,HC.out,if_neg ht])
       clear ht hDL
       go_wp2_with (first
        | (have h:=I1.out;go_at_call 87;(refine (CL2.out).mono ?_;rintro e q1 ⟨rfl,hb⟩;have I2:=hid (h.below hb);clear hb h I1))
        | (have h:=I2.out;go_at_call 131;(refine (CX2.out _ h.ls h.lt.2.2).mono ?_;rintro e q2 ⟨b3,rfl,hb3,hV,hR,ho⟩;have I3:=hid (VaSt.mk (z:=⟨D,false⟩) (h.read (z:=⟨lz,false⟩) hR ho) (R_base hV h.lt.2.2));clear hb3 hV hR ho h I2))
        | (have h:=I3.out;go_at_call 85;(refine (CB2.out _ h.ins.ls).mono ?_;rintro e q3 ⟨rfl,hb⟩;have I4:=hid (h.below hb);clear hb h I3)))
       go_roundw
       case rel=>exact ⟨lz,o2,hid ⟨HN.out,HSZ.out⟩,hid I4.out.ins⟩
       case measure =>
        have e1:=R_rlen I4.out.ins.ls
        have e2:=HM2.out
        have e3:=HLZ.out
        rw [e1,e2]
        exact e3
   ·have y2:((t:Int) != 2)=true:=by simp;omega
    have HD:=hid (show pars o l=.inl 4 from by rw [HP.out,if_neg ht])
    clear ht
    go_wp2_with (first
     | (go_at_call 87;(refine (CLX.out).mono ?_;rintro e z ⟨rfl,hb⟩;have S2:=hid (S1.out.below hb);clear hb))
     | (have h:=S2.out;go_at_call 131;(refine (CX.out _ h.rd (Nat.le_trans h.ge.1 h.on.size)).mono ?_;rintro e z ⟨b2,rfl,hb2,hV,hR,ho⟩;have hsz:=h.rs.lt;have S3:=hid (And.intro (h.read (y:=⟨lr,false⟩) hR ho) (R_base hV (show w.heap.size+1≤_ from hsz)));clear hb2 hV hR ho h S2 hsz))
     | (have h:=S3.out;go_at_call 85;(refine (CBX.out _ h.1.rd).mono ?_;rintro e z2 ⟨rfl,hb⟩;have S4:=hid (InSt.start (y:=⟨ll,false⟩) (h.1.below hb) (h.2.below hb));clear hb h S3))
     | (have h:=S4.out;go_at_call 86;(refine (CF.out _ _ _ _ _).mono ?_;rintro e z ⟨rfl,hb⟩;have SZ:=hid (h.pr.below hb);clear hb h;obtain ⟨f0,f1,f2⟩:=SZ.out.rs.cells;have fr:=SZ.out.rs.free)))
    rw [jump_ret]
    (try simp only [Exit.inBlock,Exit.then])
    obtain ⟨r0,r1,r2⟩:=(SZ.out.rs.laid (.int .i64 2) (.int .i64 4) (.slice none 0 0)).cells
    unfold three at r0 r1 r2
    refine bodyPost_ret (v:=.agg #[.int .i64 2,.int .i64 4,.slice none 0 0]) (by simp [results,Tryz.results88,go_sem,r0,r1,r2]) rfl ?_
    obtain ⟨k1,k2⟩:=SZ.out.fin (.int .i64 2) (.int .i64 4) (.slice none 0 0)
    exact ⟨k1,.inr ⟨4,HD.out,.inr rfl,rfl⟩⟩
end Opn
namespace Frm
open Go.RowKit Mem Oct
def wrapB (k:Int) (l:List Nat):List Nat:=List.replicate 16 255 ++ big (19+l.length) 2 ++ [lo8 k] ++ l
theorem wrapB_len (k:Int) (l:List Nat):(wrapB k l).length=19+l.length:=by unfold wrapB;simp [big_len];omega
def WrapW (k:Int) (l:List Nat) (EB:List Nat) (er:Int):Prop:=((k<1∨4<k)∧EB=[]∧er=1)∨((1≤k∧k≤4)∧4077<l.length∧EB=[]∧er=6)∨((1≤k∧k≤4)∧l.length≤4077∧EB=wrapB k l∧er=0)
end Frm
namespace Ntc
open Go.RowKit Mem Oct Att
open Go.Lib (hid)
section
variable {w w0 W W2:World} {P x x0 x1 x2:Value} {d l l2:List Nat} {F:Nat→Prop} {e:Ending}
end
end Ntc
namespace Frm
open Go.RowKit Mem Oct
open Go.Lib (hid)
def WrapF (EB:List Nat) (er:Int) (w:World) (e:Ending) (w':World):Prop:=∃ A c,e=.returned (.tuple #[.slice A EB.length c,.int .i64 er])∧U8s w' (.slice A EB.length c) EB∧Below w.heap.size w w'
end Frm
end Go.Proofs.YtjfmompgkkdliaaGreatDoor
