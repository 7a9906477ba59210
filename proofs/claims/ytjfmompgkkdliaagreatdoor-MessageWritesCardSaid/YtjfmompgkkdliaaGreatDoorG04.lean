/- Part of the proof. -/
import Derived.Test.YtjfmompgkkdliaaGreatDoorG03
import Derived.Lib.SliceRun
import Derived.IntWalk
import Derived.Test.YtjfmompgkkdliaaGreatDoorG02
import Derived.Lib.Hide
import Derived.Deep.RegionHeld3
import Derived.BigQuiet
open Go.Lib (hid)
set_option maxRecDepth 100000
set_option maxHeartbeats 40000000
namespace Go.Proofs.YtjfmompgkkdliaaGreatDoor
namespace Oct
open Go.RowKit Mem Ahead
def Gives8 (l:List Nat) (w:World) (e:Ending) (w':World):Prop :=
 ∃ A c,e=.returned (.slice A l.length c)∧w'.ownsRow w.heap.size 5 1 (.slice A l.length c) l.length (cells8 l)∧Below w.heap.size w w'
theorem own_nil8 (w:World) (base:Nat):w.ownsRow base 5 1 (.slice none 0 0) 0 (cells8 []):=⟨rfl,.inl ⟨rfl,rfl⟩⟩
theorem clone_any (v:Value) (l:List Nat) (w:World) (hv:U8s w v l) (hl:l.length≤1000000):Calls Tryz.prog 38 #[v] w (Gives8 l w):=by
 obtain ⟨i0,E0⟩:=elem8
 obtain ⟨A,c,rfl,hlc,hc⟩:=hv.form
 have HV:=hid hv
 have h0:(w.alloc (.cells #[] 5)).ownsRow w.heap.size 5 1 (.slice (some ⟨w.heap.size,0,none⟩) 0 0) 0 (cells8 []):=own_blk (Nat.le_refl _) (heap_alloc_new _ _)
 have H0:=hid h0
 have HR:=hid ((hv.keep ((Below.refl _ w).alloc (Nat.le_refl _) (.cells #[] 5))).1)
 have HB:=hid (Below.refl w.heap.size w)
 have q8:∀ (W:World) (a:Option Addr) (n c n' c':Nat),(binOp .eql 32 (.slice a n c) (.slice none n' c')).run Tryz.prog W=.ok (.bool a.isNone) W:=fun W a n c n' c'=>Lib.run_eql_slice_nil W _ _ a n c n' c' Tryz.underlying32
 clear hv h0
 cases A with
 | none =>
  obtain rfl:l=[]:=by
   obtain ⟨⟨_,_,_,e,_,_,hr⟩,_⟩:=HV.out
   injection e with e1 e2 e3
   subst e1
   rcases Nat.eq_zero_or_pos l.length with h | h
   ·exact List.eq_nil_of_length_eq_zero h
   ·obtain ⟨_,_,h0,_⟩:=hr h
    cases h0
  go_enter Tryz.func38,Tryz.ntmps38
  go_wp2
  go_ret
  exact ⟨none,0,rfl,own_nil8 _ _,HB.out⟩
 | some ad =>
  go_enter Tryz.func38,Tryz.ntmps38
  go_wp2_with (at_builtin;refine wpList_append_row rfl (.tmp 5) (.tmp 6) rfl E0 w.heap.size _ 0 _ rfl H0.out _ l.length (cells8 l) rfl HR.out (ones8 _) (by unfold maxLen;omega) (by omega) (by simp) (l.length) (Nat.zero_add _) ?_;intro A1 c1 w1 hown1 hg1 hat1 hb1;have HO:=hid hown1;have HB1:=hid hb1;clear hown1 hg1 hat1 hb1)
  go_ret
  refine ⟨_,_,rfl,HO.out,?_⟩
  exact ((Below.refl _ w).alloc (Nat.le_refl _) _).trans HB1.out
def NewF (l:List Nat) (w:World) (e:Ending) (w':World):Prop :=
 ∃ b,e=.returned (.pointer (some ⟨b,0,none⟩))∧R w' w.heap.size w'.heap.size (.pointer (some ⟨b,0,none⟩)) l false (fun k=>k=b)∧Below w.heap.size w w'
theorem new_of {l:List Nat} {w w1:World} {A:Option Addr} {c:Nat} (hl:Small l) (ho:w1.ownsRow w.heap.size 5 1 (.slice A l.length c) l.length (cells8 l)) (hb:Below w.heap.size w w1) :
  NewF l w (.returned (.pointer (some ⟨w1.heap.size,0,none⟩))) (w1.alloc (.cells #[.slice A l.length c,.bool false] 151)):=by
 have hb1:Below w1.heap.size w1 (w1.alloc (.cells #[.slice A l.length c,.bool false] 151)):=(Below.refl _ w1).alloc (Nat.le_refl _) _
 have hsz:(w1.alloc (.cells #[.slice A l.length c,.bool false] 151)).heap.size=w1.heap.size+1:=by simp
 refine ⟨w1.heap.size,rfl,.inr ⟨w1.heap.size,_,rfl,hb.size,by rw [hsz];omega,Nat.le_refl _,heap_alloc_new _ _,(U8s.of_own ho hl).keep hb1,fun g hg=>?_,(fun h=>by cases h),rfl⟩,hb.trans (hb1.mono hb.size)⟩
 have:=(ho.lt g hg).2
 rw [hsz]
 exact ⟨by omega,by omega⟩
def NewL (l:List Nat) (w:World) (e:Ending) (w':World):Prop :=
 ∃ b,e=.returned (.pointer (some ⟨b,0,none⟩))∧(R w' w.heap.size w'.heap.size (.pointer (some ⟨b,0,none⟩)) l false (fun k=>k=b)∧Below w.heap.size w w')∧From w' (.pointer (some ⟨b,0,none⟩)) w.heap.size
theorem newl_of {l:List Nat} {w w1:World} {A:Option Addr} {c:Nat} (hl:Small l) (ho:w1.ownsRow w.heap.size 5 1 (.slice A l.length c) l.length (cells8 l)) (hb:Below w.heap.size w w1) :
  NewL l w (.returned (.pointer (some ⟨w1.heap.size,0,none⟩))) (w1.alloc (.cells #[.slice A l.length c,.bool false] 151)):=by
 obtain ⟨b,e,h1,h2⟩:=new_of hl ho hb
 injection e with e
 injection e with e
 injection e with e
 injection e with e _ _
 subst e
 exact ⟨_,rfl,⟨h1,h2⟩,_,_,false,rfl,heap_alloc_new _ _,fun g hg=>(ho.lt g hg).1⟩
theorem new_from (v:Value) (l:List Nat) (w:World) (hv:U8s w v l) (hl:l.length≤1000000):Calls Tryz.prog 81 #[v] w (NewL l w):=by
 have CC:=hid (clone_any v l w hv hl)
 have HS:=hid hv.2
 clear hv
 go_enter Tryz.func81,Tryz.ntmps81
 go_wp2_with (go_at_call 38;refine CC.out.mono ?_;rintro e w1 ⟨A,c,rfl,ho,hb⟩;have H1:=hid (newl_of HS.out ho hb);clear ho hb)
 go_ret
 exact H1.out
theorem new_any (v:Value) (l:List Nat) (w:World) (hv:U8s w v l) (hl:l.length≤1000000):Calls Tryz.prog 81 #[v] w (NewF l w):=(new_from v l w hv hl).mono fun _ _ ⟨b,h1,h2,_⟩=>⟨b,h1,h2⟩
theorem bytes_any (v:Value) (l:List Nat) (m:Nat) (w:World) (hv:U8s w v l) (hm:m≤1000000):Calls Tryz.prog 19 #[v,.int .i64 m] w (Gives8 (l.take m) w):=by
 obtain ⟨i0,E0⟩:=elem8
 obtain ⟨A,c,rfl,hlc,hc⟩:=hv.form
 have HV:=hid hv
 have h0:(w.alloc (.cells #[] 5)).ownsRow w.heap.size 5 1 (.slice (some ⟨w.heap.size,0,none⟩) 0 0) 0 (cells8 []):=own_blk (Nat.le_refl _) (heap_alloc_new _ _)
 have H0:=hid h0
 have hb:Below w.heap.size w (w.alloc (.cells #[] 5)):=(Below.refl _ w).alloc (Nat.le_refl _) _
 have HBB:=hid hb
 by_cases hlt:m<l.length
 ·have z0:(0:Int)≤(m:Int):=by omega
  have z1:(m:Int)<(l.length:Int):=by omega
  have z2:(m:Int)≤(c:Int):=by omega
  have e1:(l.take m).length=m:=by rw [List.length_take];omega
  have hp:=((hv.keep hb).prefix_ (k:=m) (d:=c) (by omega) (by omega) (by unfold maxLen;omega)).1
  rw [e1] at hp
  have HP:=hid hp
  have HE:=hid e1
  clear hv h0 hb hp e1
  go_enter Tryz.func19,Tryz.ntmps19
  go_wp2_with (at_builtin;refine wpList_append_row rfl (.tmp 12) (.tmp 13) rfl E0 w.heap.size _ 0 _ rfl H0.out _ m (cells8 (l.take m)) rfl HP.out (ones8 _) (by unfold maxLen;omega) (by omega) (by simp) (m) (Nat.zero_add _) ?_;intro A1 c1 w1 hown1 hg1 hat1 hb1;have HO:=hid hown1;have HB1:=hid hb1;clear hown1 hg1 hat1 hb1)
  go_ret
  refine ⟨_,_,by rw [HE.out];rfl,by rw [HE.out];exact HO.out,HBB.out.trans HB1.out⟩
 ·have z1:(l.length:Int)≤(m:Int):=by omega
  have HE:=hid (List.take_of_length_le (show l.length≤m by omega))
  have HP:=hid (hv.keep hb).1
  clear hv h0 hb
  go_enter Tryz.func19,Tryz.ntmps19
  go_wp2_with (at_builtin;refine wpList_append_row rfl (.tmp 12) (.tmp 13) rfl E0 w.heap.size _ 0 _ rfl H0.out _ l.length (cells8 l) rfl HP.out (ones8 _) (by unfold maxLen;omega) (by omega) (by simp) (l.length) (Nat.zero_add _) ?_;intro A1 c1 w1 hown1 hg1 hat1 hb1;have HO:=hid hown1;have HB1:=hid hb1;clear hown1 hg1 hat1 hb1)
  go_ret
  refine ⟨_,_,by rw [HE.out];rfl,by rw [HE.out];exact HO.out,HBB.out.trans HB1.out⟩
end Oct
namespace Oct
open Go.RowKit Mem Ahead
def big (n:Nat):Nat→List Nat
 | 0=>[]
 | k+1=>n / 256 ^ k % 256 :: big n k
theorem big_len (n:Nat):∀ k,(big n k).length=k
 | 0=>rfl
 | k+1=>by simp [big,big_len n k]
theorem big_small (n:Nat):∀ k,Small (big n k)
 | 0=>small_nil
 | k+1=>fun x hx=>by
  simp only [big,List.mem_cons] at hx
  rcases hx with rfl | hx
  ·omega
  ·exact big_small n k x hx
theorem own_one8 {w:World} {base:Nat} (x:Value) (hb:base≤w.heap.size):(w.alloc (.cells #[x] 5)).ownsRow base 5 1 (.slice (some ⟨w.heap.size,0,none⟩) 1 1) 1 [x] :=
 ⟨rfl,.inr ⟨w.heap.size,1,#[x],rfl,hb,heap_alloc_new _ _,Nat.le_refl _,by decide,rfl,rfl⟩⟩
theorem big_any (n k:Nat) (w:World) (hn:n<18446744073709551616) (hk:k≤4):Calls Tryz.prog 42 #[.int .u64 n,.int .i64 k] w (Gives8 (big n k) w):=by
 obtain ⟨i0,E0⟩:=elem8
 have h0:(w.alloc (.cells #[] 5)).ownsRow w.heap.size 5 1 (.slice (some ⟨w.heap.size,0,none⟩) 0 0) 0 (cells8 []):=own_blk (Nat.le_refl _) (heap_alloc_new _ _)
 go_enter Tryz.func42,Tryz.ntmps42
 go_wp2
 go_loopw [0,5,6] (fun v0 v5 v6 wx=>∃ (j m:Nat) (A:Option Addr) (c:Nat),j≤k∧v6=.int .i64 j∧Hid (m=n / 256 ^ j)∧m<18446744073709551616∧v0=.int .u64 m∧v5=.slice A j c∧Hid (wx.ownsRow w.heap.size 5 1 (.slice A j c) j (cells8 (big n j)))∧Hid (Below w.heap.size w wx)) (fun _ _ v6 _=>k - (intOf v6).toNat)
 case atStart=>exact ⟨0,n,_,0,Nat.zero_le _,rfl,hid (by simp),hn,rfl,rfl,hid h0,hid ((Below.refl _ _).alloc (Nat.le_refl _) _)⟩
 case round =>
  obtain ⟨j,m,A,c,hj,rfl,hm,hm2,rfl,rfl,hown,hb⟩:=hrel
  by_cases hlt:j<k
  ·have z1:(j:Int)<(k:Int):=by omega
   have HN:=hid (own_one8 (w:=wr) (base:=w.heap.size) (.int .u8 ((m % 256:Nat):Int)) hb.out.size)
   have HR:=hid ((Row.of_own hown.out).keep ((Below.refl _ wr).alloc (Nat.le_refl _) (.cells #[.int .u8 ((m % 256:Nat):Int)] 5)))
   have hd:m / 256<18446744073709551616:=by omega
   have hb1:=(Below.refl _ wr).alloc (Nat.le_refl _) (.cells #[.int .u8 ((m % 256:Nat):Int)] 5)
   have HB2:=hid (hb.out.trans (hb1.mono hb.out.size))
   clear hb1
   have hs:w.heap.size≤wr.heap.size:=hb.out.size
   go_wp2_with (at_builtin;refine wpList_append_row rfl (.tmp 16) (.tmp 17) rfl E0 w.heap.size _ 1 _ rfl HN.out _ j _ rfl HR.out (ones8 _) (by unfold maxLen;omega) (by omega) (by simp;omega) (j+1) (Nat.add_comm 1 j) ?_;intro A1 c1 w1 hown1 hg1 hat1 hb1;have HO:=hid hown1;have HB1:=hid hb1;clear hown1 hg1 hat1 hb1)
   go_roundw
   case rel=>exact ⟨j+1,m / 256,A1,c1,hlt,by go_num,hid (by rw [hm.out,Nat.pow_succ,Nat.div_div_eq_div_mul]),hd,by go_num,rfl,hid (by have:=HO.out;rw [hm.out] at this;exact this),hid (HB2.out.trans (HB1.out))⟩
   case measure=>simp [intOf];omega
  ·obtain rfl:j=k:=by omega
   go_wp2
   go_ret
   exact ⟨A,c,by rw [big_len];rfl,by rw [big_len];exact hown.out,hb.out⟩
end Oct
namespace Oct
open Go.RowKit Mem Ahead
def Wr (W:World) (base:Nat) (v:Value) (l:List Nat) (F:Nat→Prop):Prop :=
 ∃ b s,v=.pointer (some ⟨b,0,none⟩)∧base≤b∧W.heap[b]?=some (.cells #[s] 97)∧W.ownsRow base 5 1 s l.length (cells8 l)∧Small l∧s.ownBlock≠some b∧F=fun k=>k=b∨s.ownBlock=some k
def Grow (F F':Nat→Prop) (W:World):Prop:=∀ k,F' k→F k∨W.heap.size≤k
theorem Wr.lt {W:World} {base:Nat} {v:Value} {l:List Nat} {F:Nat→Prop} (h:Wr W base v l F):∀ k,F k→base≤k∧k<W.heap.size:=by
 obtain ⟨b,s,rfl,h2,h3,h4,h5,h6,rfl⟩:=h
 rintro k (rfl | hk)
 ·exact ⟨h2,(Array.getElem?_eq_some_iff.1 h3).1⟩
 ·exact h4.lt k hk
theorem own_same {W W':World} {base:Nat} {e:TypeId} {v:Value} {n:Nat} {xs:List Value} (h:W.ownsRow base e 1 v n xs) (hk:∀ g,v.ownBlock=some g→W'.heap[g]?=W.heap[g]?):W'.ownsRow base e 1 v n xs:=by
 obtain ⟨h1,h2⟩:=h
 refine ⟨h1,?_⟩
 rcases h2 with h2 | ⟨g,cap,cur,hv,hg,hh,r⟩
 ·exact .inl h2
 ·exact .inr ⟨g,cap,cur,hv,hg,(hk g (by rw [hv];rfl)).trans hh,r⟩
theorem Wr.keep {W W':World} {base:Nat} {v:Value} {l:List Nat} {F:Nat→Prop} (h:Wr W base v l F) (hk:∀ k,F k→W'.heap[k]?=W.heap[k]?):Wr W' base v l F:=by
 obtain ⟨b,s,h1,h2,h3,h4,h5,h6,rfl⟩:=h
 exact ⟨b,s,h1,h2,(hk b (.inl rfl)).trans h3,own_same h4 (fun g hg=>hk g (.inr hg)),h5,h6,rfl⟩
theorem Wr.below {W W':World} {base:Nat} {v:Value} {l:List Nat} {F:Nat→Prop} (h:Wr W base v l F) (hb:Below W.heap.size W W'):Wr W' base v l F :=
 h.keep fun k hk=>hb.block k (h.lt k hk).2
theorem cell1 {W:World} {b:Nat} {x:Value} {t:TypeId} (h:W.heap[b]?=some (.cells #[x] t)):W.cell? ⟨b,0,none⟩=some x∧W.frozen? ⟨b,0,none⟩=false:=by
 simp [World.cell?,World.frozen?,h]
def AddF (base:Nat) (v x:Value) (l:List Nat) (F:Nat→Prop) (w:World) (e:Ending) (w':World):Prop :=
 ∃ F',e=.returned x∧Wr w' base v l F'∧Only F w w'∧Grow F F' w
theorem add_end {base b:Nat} {s:Value} {A1:Option Addr} {c1:Nat} {l m:List Nat} {w w1 W:World} (hb0:base≤b) (h3:w.heap[b]?=some (.cells #[s] 97)) (h6:s.ownBlock≠some b) (hl:Small l) (hm:Small m)
  (hown:w1.ownsRow base 5 1 (.slice A1 (l ++ m).length c1) (l ++ m).length (cells8 l ++ cells8 m)) (hg:w.grownBy w1 s.ownBlock) (hat:(Value.slice A1 (l ++ m).length c1).ownBlock=s.ownBlock∨(Value.slice A1 (l ++ m).length c1).ownBlock=some w.heap.size)
  (hW:W=w1.setCell ⟨b,0,none⟩ (.slice A1 (l ++ m).length c1)) :
  AddF base (.pointer (some ⟨b,0,none⟩)) (.pointer (some ⟨b,0,none⟩)) (l ++ m) (fun k=>k=b∨s.ownBlock=some k) w (.returned (.pointer (some ⟨b,0,none⟩))) W:=by
 subst hW
 have hlt:b<w.heap.size:=(Array.getElem?_eq_some_iff.1 h3).1
 have hb1:w1.heap[b]?=some (.cells #[s] 97):=(hg.block b hlt (fun e=>h6 e.symm)).trans h3
 have hne:(Value.slice A1 (l ++ m).length c1).ownBlock≠some b:=by
  rcases hat with h | h
  ·rw [h];exact h6
  ·rw [h];intro e;injection e with e;omega
 have ho1:Only (fun k=>k=b∨s.ownBlock=some k) w w1:=⟨hg.os,hg.tape,hg.output,hg.size,fun k hk hf=>hg.block k hk (fun e=>hf (.inr e.symm))⟩
 refine ⟨fun k=>k=b∨(Value.slice A1 (l ++ m).length c1).ownBlock=some k,rfl,⟨b,_,rfl,hb0,one_setCell hb1,?_,hl.append hm,hne,rfl⟩,ho1.set (.inl rfl) _,fun k hk=>?_⟩
 ·rw [cells8_append]
  exact own_same hown fun g hg=>Below.heap_setCell _ _ _ _ (fun e=>hne (by rw [hg,e]))
 ·rcases hk with rfl | hk
  ·exact .inl (.inl rfl)
  ·rcases hat with h | h
   ·exact .inl (.inr (h ▸ hk))
   ·rw [hk] at h
    injection h with h
    exact .inr (by omega)
theorem add_any (v x:Value) (base:Nat) (l m:List Nat) (F:Nat→Prop) (w:World) (hW:Wr w base v l F) (hx:U8s w x m) (hlen:l.length+m.length≤1000000) (hbase:base≤w.heap.size) :
  Calls Tryz.prog 108 #[v,x] w (AddF base v v (l ++ m) F w):=by
 obtain ⟨i0,E0⟩:=elem8
 obtain ⟨b,s,rfl,h2,h3,h4,h5,h6,rfl⟩:=hW
 obtain ⟨c0,f0⟩:=cell1 h3
 have hlt:b<w.heap.size:=(Array.getElem?_eq_some_iff.1 h3).1
 have H2:=hid h2
 have H3:=hid h3
 have H4:=hid h4
 have H5:=hid h5
 have H6:=hid h6
 have HX:=hid hx
 have HN:=hid (show (l ++ m).length=l.length+m.length from List.length_append)
 have HEND:=hid (fun A1 c1 w1 W=>@add_end base b s A1 c1 l m w w1 W h2 h3 h6 h5 hx.2)
 clear h2 h3 h4 h5 h6 hx
 generalize (l ++ m).length=N at HN HEND
 go_enter Tryz.func108,Tryz.ntmps108
 go_wp2_with (at_builtin;refine wpList_append_row rfl (.tmp 11) (.tmp 12) rfl E0 base s l.length _ rfl H4.out x m.length _ rfl HX.out.1 (ones8 _) (by unfold maxLen;omega) (by omega) hbase N (HN.out.symm) ?_;intro A1 c1 w1 hown1 hg1 hat1 hb1;obtain ⟨c1',f1'⟩:=cell1 ((hg1.block b hlt (fun e=>H6.out e.symm)).trans H3.out);have HE:=hid (HEND.out A1 c1 w1 _ hown1 hg1 hat1 rfl);clear hown1 hg1 hat1 hb1)
 go_ret
 exact HE.out
end Oct
namespace Oct
open Go.RowKit Mem Ahead
theorem lit8 (w:World) (l:List Nat) (C:Array Value) (n:Nat) (hl:Small l) (hC:C.toList=cells8 l) (hn:n=l.length) (hm:n≤1000000):U8s (w.alloc (.cells C 5)) (.slice (some ⟨w.heap.size,0,none⟩) n n) l:=by
 subst hn
 have hs:C.size=l.length:=by rw [← Array.length_toList,hC,cells8_len]
 exact U8s.of_own (base:=0) (e:=5) ⟨by rw [cells8_len,Nat.mul_one],.inr ⟨w.heap.size,l.length,C,rfl,Nat.zero_le _,heap_alloc_new _ _,Nat.le_refl _,by unfold maxLen;omega,by rw [hs,Nat.mul_one],by rw [hC,Nat.mul_one,List.take_of_length_le (by rw [cells8_len];exact Nat.le_refl _)]⟩⟩ hl
def lo8 (n:Int):Nat:=(n % 256).toNat
theorem lo8_lt (n:Int):lo8 n<256:=by unfold lo8;omega
theorem wrap_lo8 (n:Int):IntKind.u8.wrap n=(lo8 n:Int):=by rw [IntKind.wrap_u8];unfold lo8;omega
theorem AddF.from {base:Nat} {v x:Value} {l:List Nat} {F:Nat→Prop} {w w1 w':World} {e:Ending} (hb:Below w.heap.size w w1) (h:AddF base v x l F w1 e w'):AddF base v x l F w e w':=by
 obtain ⟨F',he,hW,ho,hg⟩:=h
 exact ⟨F',he,hW,(Only.of hb).trans ho,fun k hk=>(hg k hk).imp id (fun h=>Nat.le_trans hb.size h)⟩
theorem w8_put (v:Value) (base:Nat) (l:List Nat) (F:Nat→Prop) (n:Int) (w:World) (hW:Wr w base v l F) (hlen:l.length≤900000) (hbase:base≤w.heap.size) :
  Calls Tryz.prog 62 #[v,.int .i64 n] w (AddF base v v (l ++ [lo8 n]) F w):=by
 have ha:lo8 n<256:=lo8_lt _
 have wa:=wrap_lo8 n
 generalize lo8 n=a at ha wa ⊢
 have hbl:Below w.heap.size w (w.alloc (.cells #[.int .u8 (a:Nat)] 5)):=(Below.refl _ w).alloc (Nat.le_refl _) _
 have CA:=hid ((add_any v _ base l [a] F _ (hW.below hbl) (lit8 w [a] #[.int .u8 (a:Nat)] 1 (fun y hy=>by simp at hy;omega) rfl rfl (by omega)) (by simp;omega) (Nat.le_trans hbase hbl.size)).mono fun e w' h=>h.from hbl)
 clear hbl hW ha
 go_enter Tryz.func62,Tryz.ntmps62
 go_wp2_with (go_at_call 108;refine (CA.out).mono ?_;rintro e w1 ⟨F1,rfl,h⟩;have H1:=hid h;clear h)
 go_ret
 exact ⟨F1,rfl,H1.out⟩
theorem w16_put (v:Value) (base:Nat) (l:List Nat) (F:Nat→Prop) (n:Int) (w:World) (hW:Wr w base v l F) (hlen:l.length≤900000) (hbase:base≤w.heap.size) :
  Calls Tryz.prog 61 #[v,.int .i64 n] w (AddF base v v (l ++ [lo8 (n / 256),lo8 n]) F w):=by
 have ha:lo8 (n / 256)<256:=lo8_lt _
 have wa:=wrap_lo8 (n / 256)
 have hb:lo8 n<256:=lo8_lt _
 have wb:=wrap_lo8 n
 generalize lo8 (n / 256)=a at ha wa ⊢
 generalize lo8 n=b at hb wb ⊢
 have hbl:Below w.heap.size w (w.alloc (.cells #[.int .u8 (a:Nat),.int .u8 (b:Nat)] 5)):=(Below.refl _ w).alloc (Nat.le_refl _) _
 have CA:=hid ((add_any v _ base l [a,b] F _ (hW.below hbl) (lit8 w [a,b] #[.int .u8 (a:Nat),.int .u8 (b:Nat)] 2 (fun y hy=>by simp at hy;omega) rfl rfl (by omega)) (by simp;omega) (Nat.le_trans hbase hbl.size)).mono fun e w' h=>h.from hbl)
 clear hbl hW ha hb
 go_enter Tryz.func61,Tryz.ntmps61
 go_wp2_with (go_at_call 108;refine (CA.out).mono ?_;rintro e w1 ⟨F1,rfl,h⟩;have H1:=hid h;clear h)
 go_ret
 exact ⟨F1,rfl,H1.out⟩
theorem w32_put (v:Value) (base:Nat) (l:List Nat) (F:Nat→Prop) (n:Nat) (w:World) (hW:Wr w base v l F) (hlen:l.length≤900000) (hbase:base≤w.heap.size) :
  Calls Tryz.prog 104 #[v,.int .u32 n] w (AddF base v v (l ++ [lo8 (n / 16777216:Int),lo8 (n / 65536:Int),lo8 (n / 256:Int),lo8 n]) F w):=by
 have ha:lo8 (n / 16777216:Int)<256:=lo8_lt _
 have wa:=wrap_lo8 (n / 16777216:Int)
 have hb:lo8 (n / 65536:Int)<256:=lo8_lt _
 have wb:=wrap_lo8 (n / 65536:Int)
 have hc:lo8 (n / 256:Int)<256:=lo8_lt _
 have wc:=wrap_lo8 (n / 256:Int)
 have hd:lo8 n<256:=lo8_lt _
 have wd:=wrap_lo8 n
 generalize lo8 (n / 16777216:Int)=a at ha wa ⊢
 generalize lo8 (n / 65536:Int)=b at hb wb ⊢
 generalize lo8 (n / 256:Int)=c at hc wc ⊢
 generalize lo8 n=d at hd wd ⊢
 have hbl:Below w.heap.size w (w.alloc (.cells #[.int .u8 (a:Nat),.int .u8 (b:Nat),.int .u8 (c:Nat),.int .u8 (d:Nat)] 5)):=(Below.refl _ w).alloc (Nat.le_refl _) _
 have CA:=hid ((add_any v _ base l [a,b,c,d] F _ (hW.below hbl) (lit8 w [a,b,c,d] #[.int .u8 (a:Nat),.int .u8 (b:Nat),.int .u8 (c:Nat),.int .u8 (d:Nat)] 4 (fun y hy=>by simp at hy;omega) rfl rfl (by omega)) (by simp;omega) (Nat.le_trans hbase hbl.size)).mono fun e w' h=>h.from hbl)
 clear hbl hW ha hb hc hd
 go_enter Tryz.func104,Tryz.ntmps104
 go_wp2_with (go_at_call 108;refine (CA.out).mono ?_;rintro e w1 ⟨F1,rfl,h⟩;have H1:=hid h;clear h)
 go_ret
 exact ⟨F1,rfl,H1.out⟩
end Oct
namespace Oct
open Go.RowKit Mem Ahead
theorem put_any (v x:Value) (base:Nat) (l m:List Nat) (F:Nat→Prop) (w:World) (hW:Wr w base v l F) (hx:U8s w x m) (hlen:l.length+m.length≤1000000) (hbase:base≤w.heap.size) :
  Calls Tryz.prog 59 #[v,x] w (AddF base v v (l ++ m) F w):=by
 have CA:=hid (add_any v x base l m F w hW hx hlen hbase)
 clear hW hx
 go_enter Tryz.func59,Tryz.ntmps59
 go_wp2_with (go_at_call 108;refine (CA.out).mono ?_;rintro e w1 ⟨F1,rfl,h⟩;have H1:=hid h;clear h)
 go_ret
 exact ⟨F1,rfl,H1.out⟩
theorem wbytes_any (v:Value) (base:Nat) (l:List Nat) (F:Nat→Prop) (w:World) (hW:Wr w base v l F) (hlen:l.length≤1000000):Calls Tryz.prog 63 #[v] w (Gives8 l w):=by
 obtain ⟨b,s,rfl,h2,h3,h4,h5,h6,rfl⟩:=hW
 obtain ⟨c0,f0⟩:=cell1 h3
 have CC:=hid (clone_any s l w (U8s.of_own h4 h5) hlen)
 clear h2 h3 h4 h5 h6
 go_enter Tryz.func63,Tryz.ntmps63
 go_wp2_with (go_at_call 38;refine (CC.out).mono ?_;rintro e w1 ⟨A,c,rfl,h⟩;have H1:=hid h;clear h)
 go_ret
 exact ⟨A,c,rfl,H1.out⟩
theorem two_puts {base:Nat} {v x:Value} {L:List Nat} {F:Nat→Prop} {w w1 w2:World} (F1 F2:Nat→Prop) (k1:Wr w2 base v L F2) (h2:Only F w w1) (h3:Grow F F1 w) {l:List Nat} (_h1:Wr w1 base v l F1) (k2:Only F1 w1 w2) (k3:Grow F1 F2 w1) :
  AddF base v x L F w (.returned x) w2:=by
 refine ⟨F2,rfl,k1,⟨k2.os.trans h2.os,k2.tape.trans h2.tape,k2.output.trans h2.output,Nat.le_trans h2.size k2.size,fun k hk hf=>?_⟩,fun k hk=>?_⟩
 ·refine (k2.block k (Nat.lt_of_lt_of_le hk h2.size) (fun h=>?_)).trans (h2.block k hk hf)
  rcases h3 k h with h | h
  ·exact hf h
  ·omega
 ·rcases k3 k hk with h | h
  ·exact h3 k h
  ·exact .inr (Nat.le_trans h2.size h)
def sizedS (m:List Nat):List Nat:=if m.length≤255 then [lo8 (m.length:Int)] ++ m else []
def longS (m:List Nat):List Nat:=if m.length≤65535 then [lo8 ((m.length:Int) / 256),lo8 (m.length:Int)] ++ m else []
end Oct
namespace Oct
open Go.RowKit Mem Ahead
theorem wr_zero (w:World) {base:Nat} (hb:base≤w.heap.size):Wr (w.alloc (.cells #[.slice none 0 0] 97)) base (.pointer (some ⟨w.heap.size,0,none⟩)) [] (fun k=>k=w.heap.size):=by
 refine ⟨w.heap.size,.slice none 0 0,rfl,hb,heap_alloc_new _ _,own_nil8 _ _,small_nil,(fun h=>by cases h),?_⟩
 funext k
 simp [Value.ownBlock]
theorem Wr.other {W W':World} {base:Nat} {v:Value} {l:List Nat} {F G:Nat→Prop} (h:Wr W base v l F) (ho:Only G W W') (hd:∀ k,F k→¬ G k):Wr W' base v l F :=
 h.keep fun k hk=>ho.block k (h.lt k hk).2 (hd k hk)
end Oct
namespace Oct
open Go.RowKit Mem Ahead
theorem big2 (n:Nat):big n 2=[n / 256 % 256,n % 256]:=by simp [big]
theorem big4 (n:Nat):big n 4=[n / 16777216 % 256,n / 65536 % 256,n / 256 % 256,n % 256]:=by simp [big]
theorem lo8_nat (n:Nat):lo8 (n:Int)=n % 256:=by unfold lo8;omega
theorem lo8_div (n d:Nat):lo8 ((n:Int) / (d:Int))=n / d % 256:=by
 rw [← Int.natCast_ediv]
 exact lo8_nat _
theorem put4 (n:Nat):[lo8 (n / 16777216:Int),lo8 (n / 65536:Int),lo8 (n / 256:Int),lo8 n]=big n 4:=by
 rw [big4,lo8_nat]
 have h1:lo8 (n / 16777216:Int)=n / 16777216 % 256:=lo8_div n 16777216
 have h2:lo8 (n / 65536:Int)=n / 65536 % 256:=lo8_div n 65536
 have h3:lo8 (n / 256:Int)=n / 256 % 256:=lo8_div n 256
 rw [h1,h2,h3]
theorem val_big2 {n:Nat} (h:n<65536):val (big n 2)=n:=by rw [big2];simp [val];omega
theorem val_big4 {n:Nat} (h:n<4294967296):val (big n 4)=n:=by rw [big4];simp [val];omega
end Oct
namespace Opn
open Oct Att
structure Op where
 an:Nat
 hold:Int
 ri:Nat
 four:Bool
def Op.ok (o:Op):Prop:=o.an<4294967296∧(Lit.int .i64 o.hold).wf=true∧o.ri<4294967296
def zeroO:Op:=⟨0,0,0,false⟩
def holdsB (n:Int):Bool:=decide (n=0) || (decide (2<n) && decide (n<65536))
def goodO (o:Op):Bool:=decide (o.an≠0) && decide (o.ri≠0) && holdsB o.hold && (o.four || decide (o.an<65536))
def shortN (n:Nat):Nat:=if 65535<n then 23456 else n
def encO (o:Op):List Nat:=[4] ++ big (shortN o.an) 2 ++ big o.hold.toNat 2 ++ big o.ri 4 ++ (if o.four then [8,2,6,65,4] ++ big o.an 4 else [0])
def capsO:Nat→Op→List Nat→Option Op
 | 0,o,b=>if b=[] then some o else none
 | n+1,o,b=>match b with
  | []=>some o
  | c :: m :: r=>if m≤r.length then (if c=65 then (if m=4∧val (r.take m)≠0 then capsO n ⟨val (r.take m),o.hold,o.ri,true⟩ (r.drop m) else none) else capsO n o (r.drop m)) else none
  | _=>none
def parsO:Nat→Op→List Nat→Nat ⊕ Op
 | 0,o,b=>if b=[] then .inr o else .inl 0
 | n+1,o,b=>match b with
  | []=>.inr o
  | t :: m :: r=>if m≤r.length then (if t=2 then (match capsO m o (r.take m) with | some o2=>parsO n o2 (r.drop m) | none=>.inl 0) else .inl 4) else .inl 0
  | _=>.inl 0
def noO (s:Nat):No:=⟨2,s,if s=1 then [0,4] else []⟩
def headO (b:List Nat):Op:=⟨val ((b.drop 1).take 2),(val ((b.drop 3).take 2):Nat),val ((b.drop 5).take 4),false⟩
def decO (b:List Nat):Nat ⊕ Op :=
 if b.length<10 then .inl 0
 else if b[0]?≠some 4 then .inl 1
 else if (headO b).an=0 then .inl 2
 else if holdsB (headO b).hold=false then .inl 6
 else if (headO b).ri=0 then .inl 3
 else if b[9]?≠some (b.length - 10) then .inl 0
 else parsO (b.length - 10) (headO b) (b.drop 10)
def outO:Nat ⊕ Op→Op × No
 | .inl s=>(zeroO,noO s)
 | .inr o=>(o,⟨0,0,[]⟩)
theorem capsO_fuel:∀ (n m:Nat) (o:Op) (b:List Nat),b.length≤n→b.length≤m→capsO n o b=capsO m o b
 | 0,0,_,_,_,_=>rfl
 | 0,m+1,o,b,h,_=>by
  obtain rfl:=List.eq_nil_of_length_eq_zero (Nat.le_zero.1 h)
  rfl
 | n+1,0,o,b,_,h=>by
  obtain rfl:=List.eq_nil_of_length_eq_zero (Nat.le_zero.1 h)
  rfl
 | n+1,m+1,o,b,hn,hm=>by
  match b,hn,hm with
  | [],_,_=>rfl
  | [_],_,_=>rfl
  | c :: k :: r,hn,hm =>
   simp only [List.length_cons] at hn hm
   unfold capsO
   dsimp only
   have hd:(r.drop k).length≤r.length:=by rw [List.length_drop];omega
   rw [capsO_fuel n m _ (r.drop k) (by omega) (by omega),capsO_fuel n m o (r.drop k) (by omega) (by omega)]
theorem parsO_fuel:∀ (n m:Nat) (o:Op) (b:List Nat),b.length≤n→b.length≤m→parsO n o b=parsO m o b
 | 0,0,_,_,_,_=>rfl
 | 0,m+1,o,b,h,_=>by
  obtain rfl:=List.eq_nil_of_length_eq_zero (Nat.le_zero.1 h)
  rfl
 | n+1,0,o,b,_,h=>by
  obtain rfl:=List.eq_nil_of_length_eq_zero (Nat.le_zero.1 h)
  rfl
 | n+1,m+1,o,b,hn,hm=>by
  match b,hn,hm with
  | [],_,_=>rfl
  | [_],_,_=>rfl
  | c :: k :: r,hn,hm =>
   simp only [List.length_cons] at hn hm
   unfold parsO
   dsimp only
   have hd:(r.drop k).length≤r.length:=by rw [List.length_drop];omega
   have e:∀ o2,parsO n o2 (r.drop k)=parsO m o2 (r.drop k):=fun o2=>parsO_fuel n m o2 (r.drop k) (by omega) (by omega)
   simp only [e]
def caps (o:Op) (b:List Nat):Option Op:=capsO b.length o b
def pars (o:Op) (b:List Nat):Nat ⊕ Op:=parsO b.length o b
theorem caps_nil (o:Op):caps o []=some o:=rfl
theorem caps_one (o:Op) (x:Nat):caps o [x]=none:=rfl
theorem caps_step (o:Op) (c m:Nat) (r:List Nat):caps o (c :: m :: r)=if m≤r.length then (if c=65 then (if m=4∧val (r.take m)≠0 then caps ⟨val (r.take m),o.hold,o.ri,true⟩ (r.drop m) else none) else caps o (r.drop m)) else none:=by
 have hd:(r.drop m).length≤r.length:=by rw [List.length_drop];omega
 unfold caps
 show capsO (r.length+1+1) o _=_
 rw [capsO]
 rw [capsO_fuel (r.length+1) (r.drop m).length _ (r.drop m) (by omega) (Nat.le_refl _),capsO_fuel (r.length+1) (r.drop m).length o (r.drop m) (by omega) (Nat.le_refl _)]
theorem pars_nil (o:Op):pars o []=.inr o:=rfl
theorem pars_one (o:Op) (x:Nat):pars o [x]=.inl 0:=rfl
theorem pars_step (o:Op) (t m:Nat) (r:List Nat):pars o (t :: m :: r)=if m≤r.length then (if t=2 then (match caps o (r.take m) with | some o2=>pars o2 (r.drop m) | none=>.inl 0) else .inl 4) else .inl 0:=by
 have hd:(r.drop m).length≤r.length:=by rw [List.length_drop];omega
 unfold pars caps
 show parsO (r.length+1+1) o _=_
 rw [parsO]
 have e:∀ o2,parsO (r.length+1) o2 (r.drop m)=parsO (r.drop m).length o2 (r.drop m):=fun o2=>parsO_fuel _ _ o2 (r.drop m) (by omega) (Nat.le_refl _)
 by_cases hm:m≤r.length
 ·rw [if_pos hm,if_pos hm]
  by_cases ht:t=2
  ·rw [if_pos ht,if_pos ht,capsO_fuel m (r.take m).length o (r.take m) (by rw [List.length_take];omega) (Nat.le_refl _)]
   simp only [e]
  ·rw [if_neg ht,if_neg ht]
 ·rw [if_neg hm,if_neg hm]
theorem decO_is (b:List Nat):decO b=if b.length<10 then .inl 0 else if b[0]?≠some 4 then .inl 1 else if (headO b).an=0 then .inl 2 else if holdsB (headO b).hold=false then .inl 6 else if (headO b).ri=0 then .inl 3 else if b[9]?≠some (b.length - 10) then .inl 0 else pars (headO b) (b.drop 10):=by
 unfold decO pars
 rw [List.length_drop]
theorem dec_encO {o:Op} (h:goodO o=true) (hok:o.ok):decO (encO o)=.inr o:=by
 obtain ⟨an,hold,ri,four⟩:=o
 obtain ⟨h1,-,h3⟩:=hok
 unfold goodO holdsB at h
 simp only [Bool.and_eq_true,Bool.or_eq_true,decide_eq_true_eq] at h
 dsimp only at h1 h3 h
 obtain ⟨⟨⟨g1,g2⟩,g3⟩,g4⟩:=h
 obtain ⟨n,rfl⟩:=Int.eq_ofNat_of_zero_le (show 0≤hold by omega)
 have hn:n<65536:=by omega
 have hs:shortN an<65536∧shortN an≠0:=by unfold shortN;split <;> omega
 have hb:holdsB (n:Int)=true:=by unfold holdsB;simp only [Bool.or_eq_true,Bool.and_eq_true,decide_eq_true_eq];omega
 have v2:=val_big2 hs.1
 have v3:=val_big2 hn
 have v4:=val_big4 h3
 have v5:=val_big4 h1
 rw [big2] at v2 v3
 rw [big4] at v4 v5
 cases four with
 | true =>
  have e:encO ⟨an,(n:Int),ri,true⟩=4 :: (shortN an / 256 % 256) :: (shortN an % 256) :: (n / 256 % 256) :: (n % 256) :: (ri / 16777216 % 256) :: (ri / 65536 % 256) :: (ri / 256 % 256) :: (ri % 256) :: 8 :: 2 :: 6 :: 65 :: 4 :: (an / 16777216 % 256) :: (an / 65536 % 256) :: (an / 256 % 256) :: (an % 256) :: []:=by
   simp [encO,big2,big4]
  rw [e,decO_is]
  simp only [headO,List.drop_succ_cons,List.drop_zero,List.take_succ_cons,List.take_zero,v2,v3,v4]
  rw [if_neg (by simp),if_neg (by simp),if_neg hs.2,if_neg (by rw [hb];decide),if_neg g2,if_neg (by simp),pars_step,if_pos (by simp),if_pos rfl]
  simp only [List.take_succ_cons,List.take_zero,List.drop_succ_cons,List.drop_zero]
  rw [caps_step,if_pos (by simp),if_pos rfl]
  simp only [List.take_succ_cons,List.take_zero,List.drop_succ_cons,List.drop_zero,v5]
  rw [if_pos ⟨trivial,g1⟩,caps_nil]
  rfl
 | false =>
  have g5:an<65536:=by simpa using g4
  have e:encO ⟨an,(n:Int),ri,false⟩=4 :: (an / 256 % 256) :: (an % 256) :: (n / 256 % 256) :: (n % 256) :: (ri / 16777216 % 256) :: (ri / 65536 % 256) :: (ri / 256 % 256) :: (ri % 256) :: 0 :: []:=by
   have e2:shortN an=an:=by unfold shortN;rw [if_neg (by omega)]
   simp [encO,big2,big4,e2]
  have e2:shortN an=an:=by unfold shortN;rw [if_neg (by omega)]
  rw [e2] at v2
  rw [e,decO_is]
  simp only [headO,List.drop_succ_cons,List.drop_zero,List.take_succ_cons,List.take_zero,v2,v3,v4]
  rw [if_neg (by simp),if_neg (by simp),if_neg g1,if_neg (by rw [hb];decide),if_neg g2,if_neg (by simp),pars_nil]
end Opn
namespace Oct
open Go.RowKit Mem Ahead
section
variable {base:Nat} {P v:Value} {l l' m k:List Nat} {F F':Nat→Prop} {W W':World}
end
end Oct
namespace Ntc
open Go.RowKit Mem Oct Att
def goodN (n:No):Bool:=decide (1≤n.code∧n.code≤255∧0≤n.sub∧n.sub≤255∧n.data.length≤4075)
theorem goodN_of {n:No} (h:goodN n=true):1≤n.code∧n.code≤255∧0≤n.sub∧n.sub≤255∧n.data.length≤4075:=of_decide_eq_true h
def noN:No:=⟨0,0,[]⟩
def encN (n:No):List Nat:=[lo8 n.code] ++ [lo8 n.sub] ++ n.data
theorem encN_small {n:No} (h:Small n.data):Small (encN n):=by
 refine Small.append (fun x hx=>?_) h
 rcases (by simpa using hx:x=lo8 n.code∨x=lo8 n.sub) with rfl | rfl <;> exact lo8_lt _
end Ntc
namespace Att
open Go.RowKit Mem Oct
structure Wst (base:Nat) (v:Value) (F0:Nat→Prop) (s:World) (l:List Nat) (F:Nat→Prop) (W:World):Prop where
 wr:Wr W base v l F
 on:Only F0 s W
 gr:Grow F0 F s
section
variable {base:Nat} {v x:Value} {F0 F:Nat→Prop} {s W W2:World} {l l2:List Nat} {e:Ending}
theorem Wst.new (h:Wr s base v l F):Wst base v F s l F s:=⟨h,Only.refl _ _,fun _ h=>.inl h⟩
theorem Wst.below (h:Wst base v F0 s l F W) (hb:Below W.heap.size W W2):Wst base v F0 s l F W2 :=
 ⟨h.wr.below hb,h.on.trans (Only.of hb),h.gr⟩
theorem Wst.add (h:Wst base v F0 s l F W) (k:AddF base v x l2 F W e W2):∃ F2,e=.returned x∧Wst base v F0 s l2 F2 W2:=by
 obtain ⟨F2,h1,h2,h3,h4⟩:=k
 have h5:=two_puts F F2 h2 h.on h.gr h.wr h3 h4 (x:=x)
 obtain ⟨F3,e3,k1,k2,k3⟩:=h5
 exact ⟨F3,h1,k1,k2,k3⟩
theorem Wst.size (h:Wst base v F0 s l F W):s.heap.size≤W.heap.size:=h.on.size
theorem Wst.then_ {F2:Nat→Prop} (h:Wst base v F0 s l F W) (k:Wst base v F W l2 F2 W2):Wst base v F0 s l2 F2 W2:=by
 have h5:=two_puts F F2 k.wr h.on h.gr h.wr k.on k.gr (x:=v)
 obtain ⟨F3,e3,k1,k2,k3⟩:=h5
 exact ⟨k.wr,k2,fun j hj=>by
  rcases k.gr j hj with q | q
  ·exact h.gr j q
  ·exact .inr (Nat.le_trans h.size q)⟩
end
theorem Wst.only {base:Nat} {v:Value} {F0 F:Nat→Prop} {s W W2:World} {l:List Nat} (h:Wst base v F0 s l F W) (ho:Only F W W2):Only F0 s W2 :=
 ⟨ho.os.trans h.on.os,ho.tape.trans h.on.tape,ho.output.trans h.on.output,Nat.le_trans h.on.size ho.size,fun k hk hf=>(ho.block k (Nat.lt_of_lt_of_le hk h.on.size) (fun q=>(h.gr k q).elim hf (fun r=>by omega))).trans (h.on.block k hk hf)⟩
theorem wr_small {W:World} {base:Nat} {v:Value} {l:List Nat} {F:Nat→Prop} (h:Wr W base v l F):Small l:=let ⟨_,_,_,_,_,_,h5,_⟩:=h;h5
theorem sizedO_any (v:Value) (A:Option Addr) (c:Nat) (base:Nat) (l m:List Nat) (F:Nat→Prop) (w:World) (hW:Wr w base v l F) (hx:∀ W,Only F w W→U8s W (.slice A m.length c) m) (hlen:l.length+m.length≤800000) (hbase:base≤w.heap.size) :
  Calls Tryz.prog 102 #[v,.slice A m.length c] w (AddF base v (.bool (decide (m.length≤255))) (l ++ sizedS m) F w):=by
 have hW0:=hW
 obtain ⟨b,s,hv,-⟩:=hW0
 have HW:=hid hW
 by_cases hm:m.length≤255
 ·have z1:(m.length:Int)≤255:=by omega
  have e1:decide (m.length≤255)=true:=decide_eq_true hm
  have e2:l ++ sizedS m=(l ++ [lo8 (m.length:Int)]) ++ m:=by unfold sizedS;rw [if_pos hm,List.append_assoc]
  rw [e1,e2]
  have CU:=hid (w8_put v base l F (m.length:Int) w hW (by omega) hbase)
  have CP:=hid (fun F1 W (h1:Wr W base v (l ++ [lo8 (m.length:Int)]) F1) (h2:U8s W (.slice A m.length c) m) (h3:base≤W.heap.size)=>put_any v (.slice A m.length c) base (l ++ [lo8 (m.length:Int)]) m F1 W h1 h2 (by simp;omega) h3)
  have HX:=hid hx
  have HB:=hid hbase
  clear hx hW e1 e2
  generalize [lo8 (m.length:Int)]=H at CU CP ⊢
  subst hv
  go_enter Tryz.func102,Tryz.ntmps102
  go_wp2_with (first
   | (go_at_call 62;refine (CU.out).mono ?_;rintro e w1 ⟨F1,rfl,h1,h2,h3⟩;have H1:=hid h1;have H2:=hid h2;have H3:=hid h3;clear h1 h2 h3)
   | (go_at_call 59;have k1:=HX.out _ H2.out;have k2:=H1.out;have k3:=Nat.le_trans HB.out H2.out.size;refine (CP.out _ _ k2 k1 k3).mono ?_;clear k1 k2 k3;rintro e w2 ⟨F2,rfl,h1,h2,h3⟩;have K1:=hid h1;have K2:=hid h2;have K3:=hid h3;clear h1 h2 h3))
  go_ret
  exact two_puts F1 F2 K1.out H2.out H3.out H1.out K2.out K3.out
 ·have z1:(m.length:Int) > 255:=by omega
  have e1:decide (m.length≤255)=false:=decide_eq_false hm
  have e2:l ++ sizedS m=l:=by unfold sizedS;rw [if_neg hm,List.append_nil]
  rw [e1,e2]
  clear hx hW e1 e2
  subst hv
  go_enter Tryz.func102,Tryz.ntmps102
  go_wp2
  go_ret
  exact ⟨F,rfl,HW.out,Only.refl _ _,fun k hk=>.inl hk⟩
theorem longO_any (v:Value) (A:Option Addr) (c:Nat) (base:Nat) (l m:List Nat) (F:Nat→Prop) (w:World) (hW:Wr w base v l F) (hx:∀ W,Only F w W→U8s W (.slice A m.length c) m) (hlen:l.length+m.length≤800000) (hbase:base≤w.heap.size) :
  Calls Tryz.prog 107 #[v,.slice A m.length c] w (AddF base v (.bool (decide (m.length≤65535))) (l ++ longS m) F w):=by
 have hW0:=hW
 obtain ⟨b,s,hv,-⟩:=hW0
 have HW:=hid hW
 by_cases hm:m.length≤65535
 ·have z1:(m.length:Int)≤65535:=by omega
  have e1:decide (m.length≤65535)=true:=decide_eq_true hm
  have e2:l ++ longS m=(l ++ [lo8 ((m.length:Int) / 256),lo8 (m.length:Int)]) ++ m:=by unfold longS;rw [if_pos hm,List.append_assoc]
  rw [e1,e2]
  have CU:=hid (w16_put v base l F (m.length:Int) w hW (by omega) hbase)
  have CP:=hid (fun F1 W (h1:Wr W base v (l ++ [lo8 ((m.length:Int) / 256),lo8 (m.length:Int)]) F1) (h2:U8s W (.slice A m.length c) m) (h3:base≤W.heap.size)=>put_any v (.slice A m.length c) base (l ++ [lo8 ((m.length:Int) / 256),lo8 (m.length:Int)]) m F1 W h1 h2 (by simp;omega) h3)
  have HX:=hid hx
  have HB:=hid hbase
  clear hx hW e1 e2
  generalize [lo8 ((m.length:Int) / 256),lo8 (m.length:Int)]=H at CU CP ⊢
  subst hv
  go_enter Tryz.func107,Tryz.ntmps107
  go_wp2_with (first
   | (go_at_call 61;refine (CU.out).mono ?_;rintro e w1 ⟨F1,rfl,h1,h2,h3⟩;have H1:=hid h1;have H2:=hid h2;have H3:=hid h3;clear h1 h2 h3)
   | (go_at_call 59;have k1:=HX.out _ H2.out;have k2:=H1.out;have k3:=Nat.le_trans HB.out H2.out.size;refine (CP.out _ _ k2 k1 k3).mono ?_;clear k1 k2 k3;rintro e w2 ⟨F2,rfl,h1,h2,h3⟩;have K1:=hid h1;have K2:=hid h2;have K3:=hid h3;clear h1 h2 h3))
  go_ret
  exact two_puts F1 F2 K1.out H2.out H3.out H1.out K2.out K3.out
 ·have z1:(m.length:Int) > 65535:=by omega
  have e1:decide (m.length≤65535)=false:=decide_eq_false hm
  have e2:l ++ longS m=l:=by unfold longS;rw [if_neg hm,List.append_nil]
  rw [e1,e2]
  clear hx hW e1 e2
  subst hv
  go_enter Tryz.func107,Tryz.ntmps107
  go_wp2
  go_ret
  exact ⟨F,rfl,HW.out,Only.refl _ _,fun k hk=>.inl hk⟩
end Att
namespace Frm
open Go.RowKit Mem Oct Att
open Go.Lib (hid)
theorem box_low (w:World) (x y z:Value):Below w.heap.size w (w.alloc (.cells #[x,y,z] 34)):=(Below.refl _ w).alloc (Nat.le_refl _) _
theorem add_at (b o i:Nat):(⟨b,o,none⟩:Addr).add i=⟨b,o+i,none⟩:=by unfold Addr.add;split <;> simp_all
theorem U8s.mid {w:World} {l:List Nat} {b off n c i k:Nat} (h:U8s w (.slice (some ⟨b,off,none⟩) n c) l) (hik:i+k≤l.length) (hc:i<c) :
  U8s w (.slice (some ⟨b,off+i,none⟩) k (c - i)) ((l.drop i).take k):=by
 obtain ⟨A,c',e,hl,hm⟩:=h.form
 injection e with e1 e2 e3
 subst e1 e2 e3
 have h1:=h.cut (k:=i) (by omega)
 rw [if_neg (by omega)] at h1
 have h2:U8s w (.slice (some ⟨b,off+i,none⟩) (l.length - i) (c - i)) (l.drop i):=by
  rw [Option.map_some,add_at] at h1
  exact h1
 exact h2.prefix_ (by rw [List.length_drop];omega) (by omega) (by unfold maxLen;omega)
theorem lenH_lt {l:List Nat} (h:Small l):lenH l<65536:=by
 unfold lenH
 have h1:=val_lt 2 (h.drop 16)
 exact h1
end Frm
namespace Frm
open Go.RowKit Mem Oct
def wrapB (k:Int) (l:List Nat):List Nat:=List.replicate 16 255 ++ big (19+l.length) 2 ++ [lo8 k] ++ l
theorem ff_small (n:Nat):Small (List.replicate n 255):=fun x hx=>by rw [(List.mem_replicate.1 hx).2];decide
theorem wrapB_small {k:Int} {l:List Nat} (h:Small l):Small (wrapB k l):=by
 unfold wrapB
 exact (((ff_small 16).append (big_small _ _)).append (fun x hx=>by rw [List.mem_singleton.1 hx];exact lo8_lt _)).append h
theorem wrapB_len (k:Int) (l:List Nat):(wrapB k l).length=19+l.length:=by unfold wrapB;simp [big_len];omega
def WrapW (k:Int) (l:List Nat) (EB:List Nat) (er:Int):Prop:=((k<1∨4<k)∧EB=[]∧er=1)∨((1≤k∧k≤4)∧4077<l.length∧EB=[]∧er=6)∨((1≤k∧k≤4)∧l.length≤4077∧EB=wrapB k l∧er=0)
end Frm
namespace Opn
open Go.RowKit Mem Oct Att
def opn (o:Op):Value:=.agg #[.int .u32 o.an,.int .i64 o.hold,.int .u32 o.ri,.bool o.four]
theorem holdsB_cases (n:Int):(n=0∧holdsB n=true)∨(n≠0∧n<3∧holdsB n=false)∨(3≤n∧n≤65535∧holdsB n=true)∨(65535<n∧holdsB n=false):=by
 by_cases h0:n=0
 ·exact .inl ⟨h0,by unfold holdsB;simp [h0]⟩
 ·by_cases h1:n<3
  ·exact .inr (.inl ⟨h0,h1,by unfold holdsB;simp [h0];omega⟩)
  ·by_cases h2:n≤65535
   ·exact .inr (.inr (.inl ⟨by omega,h2,by unfold holdsB;simp [h0];omega⟩))
   ·exact .inr (.inr (.inr ⟨by omega,by unfold holdsB;simp [h0];omega⟩))
theorem pholds_any (n:Int) (w:World):Calls Tryz.prog 64 #[.int .i64 n] w (Tells (.bool (holdsB n)) w):=by
 rcases holdsB_cases n with ⟨rfl,e⟩ | ⟨h0,h1,e⟩ | ⟨h1,h2,e⟩ | ⟨h1,e⟩
 ·rw [e]
  clear e
  go_enter Tryz.func64,Tryz.ntmps64
  go_wp2
  go_ret
  exact ⟨rfl,Below.refl _ _⟩
 ·rw [e]
  clear e
  have y0:(n == 0)=false:=by simp [h0]
  have y1:decide (3≤n)=false:=by simp;omega
  clear h0 h1
  go_enter Tryz.func64,Tryz.ntmps64
  go_wp2
  go_ret
  exact ⟨rfl,Below.refl _ _⟩
 ·rw [e]
  clear e
  have y0:(n == 0)=false:=by simp;omega
  go_enter Tryz.func64,Tryz.ntmps64
  go_wp2
  go_ret
  exact ⟨rfl,Below.refl _ _⟩
 ·rw [e]
  clear e
  have y0:(n == 0)=false:=by simp;omega
  have y1:decide (n≤65535)=false:=by simp;omega
  have y2:3≤n:=by omega
  clear h1
  go_enter Tryz.func64,Tryz.ntmps64
  go_wp2
  go_ret
  exact ⟨rfl,Below.refl _ _⟩
theorem fault_any (s:Int) (A:Option Addr) (n c:Nat) (w:World):Calls Tryz.prog 86 #[.int .i64 s,.slice A n c] w (Tells (.agg #[.int .i64 2,.int .i64 s,.slice A n c]) w):=by
 have HB:=hid ((Below.refl w.heap.size w).alloc (Nat.le_refl _) (.cells #[.int .i64 2,.int .i64 s,.slice A n c] 34))
 go_enter Tryz.func86,Tryz.ntmps86
 go_wp2
 (try simp only [Exit.inBlock,Exit.then])
 refine bodyPost_ret (v:=.agg #[.int .i64 2,.int .i64 s,.slice A n c]) (by simp [results,Tryz.results86,go_sem]) rfl ?_
 exact ⟨rfl,HB.out⟩
theorem pgood_any (o:Op) (w:World):Calls Tryz.prog 27 #[opn o] w (Tells (.bool (goodO o)) w):=by
 obtain ⟨an,hold,ri,fr⟩:=o
 unfold opn goodO
 dsimp only
 have CH:=hid (fun W=>pholds_any hold W)
 have HX:=hid (Box4.new w 24 (.int .u32 an) (.int .i64 hold) (.int .u32 ri) (.bool fr))
 have HB:=hid ((Below.refl w.heap.size w).alloc (Nat.le_refl _) (.cells #[.int .u32 an,.int .i64 hold,.int .u32 ri,.bool fr] 24))
 obtain ⟨c0,c1,c2,c3⟩:=HX.out.cells
 generalize holdsB hold=hb at CH ⊢
 rcases Nat.eq_zero_or_pos an with rfl | h1
 ·simp only [ne_eq,not_true_eq_false,decide_false,Bool.false_and]
  go_enter Tryz.func27,Tryz.ntmps27
  go_wp2
  go_ret
  exact ⟨rfl,HB.out⟩
 have y1:((an:Int) != 0)=true:=by simp;omega
 rw [decide_eq_true (show an≠0 by omega)]
 simp only [Bool.true_and]
 rcases Nat.eq_zero_or_pos ri with rfl | h2
 ·simp only [ne_eq,not_true_eq_false,decide_false,Bool.false_and]
  by_cases h3:an<65536
  ·have z1:(an:Int)≤65535:=by omega
   cases fr <;> (go_enter Tryz.func27,Tryz.ntmps27;go_wp2;go_ret;exact ⟨rfl,HB.out⟩)
  ·have z1:decide ((an:Int)≤65535)=false:=by simp;omega
   cases fr <;> (go_enter Tryz.func27,Tryz.ntmps27;go_wp2;go_ret;exact ⟨rfl,HB.out⟩)
 have y2:((ri:Int) != 0)=true:=by simp;omega
 rw [decide_eq_true (show ri≠0 by omega)]
 simp only [Bool.true_and]
 by_cases h3:an<65536
 ·have z1:(an:Int)≤65535:=by omega
  rw [decide_eq_true h3]
  cases fr <;> cases hb <;> (go_enter Tryz.func27,Tryz.ntmps27;go_wp2_with (go_at_call 64;refine (CH.out _).mono ?_;rintro e x ⟨rfl,hb1⟩;have B1:=hid (HB.out.trans (hb1.mono HB.out.size));clear hb1);go_ret;exact ⟨rfl,B1.out⟩)
 ·have z1:decide ((an:Int)≤65535)=false:=by simp;omega
  rw [decide_eq_false h3]
  cases fr with
  | true=>cases hb <;> (go_enter Tryz.func27,Tryz.ntmps27;go_wp2_with (go_at_call 64;refine (CH.out _).mono ?_;rintro e x ⟨rfl,hb1⟩;have B1:=hid (HB.out.trans (hb1.mono HB.out.size));clear hb1);go_ret;exact ⟨rfl,B1.out⟩)
  | false =>
   go_enter Tryz.func27,Tryz.ntmps27
   go_wp2
   go_ret
   exact ⟨by simp,HB.out⟩
end Opn
namespace Opn
open Go.RowKit Mem Oct Att
theorem R_base {W:World} {base base' n:Nat} {v:Value} {l:List Nat} {bad:Bool} {F:Nat→Prop} (h:R W base n v l bad F) (hb:base'≤base):R W base' n v l bad F:=by
 rcases h with h | ⟨b,s,h1,h2,h3⟩
 ·exact .inl h
 ·exact .inr ⟨b,s,h1,Nat.le_trans hb h2,h3⟩
def onK (x:Rd):Nat:=x.num 1
def onN (x:Rd):Nat:=(x.go 1).num 1
def on2 (x:Rd):Rd:=(x.go 1).go 1
def onV (x:Rd):Rd:=⟨got (on2 x).l (on2 x).b (onN x:Nat),fails (on2 x).l (on2 x).b (onN x:Nat)⟩
def onR (x:Rd):Rd:=(on2 x).go (onN x:Nat)
def NextF (base n:Nat) (v:Value) (F:Nat→Prop) (x:Rd) (w:World) (e:Ending) (w':World):Prop :=
 ∃ b,e=.returned (.tuple #[.int .i64 (onK x:Nat),.pointer (some ⟨b,0,none⟩)])∧w.heap.size≤b∧R w' w.heap.size w'.heap.size (.pointer (some ⟨b,0,none⟩)) (onV x).l (onV x).b (fun k=>k=b)∧R w' base n v (onR x).l (onR x).b F∧Only F w w'
theorem onext_any (v:Value) (base n:Nat) (x:Rd) (F:Nat→Prop) (w:World) (hs:Small x.l) (hR:R w base n v x.l x.b F) (hn:n≤w.heap.size):Calls Tryz.prog 131 #[v] w (NextF base n v F x w):=by
 have hN:onN x<256:=num_lt (x:=x.go 1) (Rd.small hs 1) 1
 have S0:=hid (show R w base n v x.l x.b F∧Only F w w from ⟨hR,Only.refl _ _⟩)
 have HN:=hid hn
 have C1:=hid (fun (W:World) (h:R W base n v x.l x.b F)=>show Calls Tryz.prog 82 #[v] W (fun e w'=>e=.returned (.int .i64 (onK x:Nat))∧R w' base n v (x.go 1).l (x.go 1).b F∧Only F W w') from u8_any v base n x.l x.b F W hs h)
 have C2:=hid (fun (W:World) (h:R W base n v (x.go 1).l (x.go 1).b F)=>show Calls Tryz.prog 82 #[v] W (fun e w'=>e=.returned (.int .i64 (onN x:Nat))∧R w' base n v (on2 x).l (on2 x).b F∧Only F W w') from u8_any v base n (x.go 1).l (x.go 1).b F W (Rd.small hs 1) h)
 have C3:=hid (fun (W:World) (hn:n≤W.heap.size) (h:R W base n v (on2 x).l (on2 x).b F)=>show Calls Tryz.prog 156 #[v,.int .i64 (onN x:Nat)] W (PartF base n v F (on2 x).l (on2 x).b (onN x:Nat) W) from part_any v base n (on2 x).l (on2 x).b F (onN x:Nat) (by simp [Lit.wf,IntKind.min,IntKind.max,IntKind.signed,IntKind.bits];omega) W hn h)
 unfold NextF
 have HV:=hid (show (onV x).l=got (on2 x).l (on2 x).b (onN x:Nat)∧(onV x).b=fails (on2 x).l (on2 x).b (onN x:Nat)∧(onR x).l=rest (on2 x).l (on2 x).b (onN x:Nat)∧(onR x).b=fails (on2 x).l (on2 x).b (onN x:Nat) from ⟨rfl,rfl,rfl,rfl⟩)
 generalize onV x=V at HV ⊢
 generalize onR x=Y at HV ⊢
 generalize onK x=k at C1 ⊢
 generalize onN x=N at C2 C3 HV
 clear hs hR hn hN
 go_enter Tryz.func131,Tryz.ntmps131
 go_wp2_with (first
  | (have h:=S2.out;go_at_call 156;(refine (C3.out _ (Nat.le_trans HN.out h.2.size) h.1).mono ?_;rintro e z ⟨b,rfl,hb,hV,hR,ho⟩;have S3:=hid (And.intro hb (And.intro hV (And.intro hR (And.intro h.2.size (h.2.trans ho)))));clear h hb hV hR ho S2))
  | (have h:=S1.out;go_at_call 82;(refine (C2.out _ h.1).mono ?_;rintro e z ⟨rfl,hR,ho⟩;have S2:=hid (And.intro hR (h.2.trans ho));clear h hR ho S1))
  | (have h:=S0.out;go_at_call 82;(refine (C1.out _ h.1).mono ?_;rintro e z ⟨rfl,hR,ho⟩;have S1:=hid (And.intro hR (h.2.trans ho));clear h hR ho S0)))
 go_ret2
 obtain ⟨h1,h2,h3,h4,h5⟩:=S3.out
 obtain ⟨e1,e2,e3,e4⟩:=HV.out
 rw [e1,e2,e3,e4]
 exact ⟨b,rfl,Nat.le_trans h4 h1,R_base h2 h4,h3,h5⟩
structure Two (w0:World) (P1 P2:Value) (l1 l2:List Nat) (F1 F2:Nat→Prop) (W:World):Prop where
 fst:Wr W w0.heap.size P1 l1 F1
 snd:Wr W w0.heap.size P2 l2 F2
 apart:∀ k,F1 k→¬ F2 k
 low:Below w0.heap.size w0 W
section
variable {w0 W W2:World} {P1 P2 x:Value} {l1 l2 l:List Nat} {F1 F2:Nat→Prop} {e:Ending}
theorem Two.below (h:Two w0 P1 P2 l1 l2 F1 F2 W) (hb:Below W.heap.size W W2):Two w0 P1 P2 l1 l2 F1 F2 W2 :=
 ⟨h.fst.below hb,h.snd.below hb,h.apart,h.low.trans (hb.mono h.low.size)⟩
theorem Two.add1 (h:Two w0 P1 P2 l1 l2 F1 F2 W) (k:AddF w0.heap.size P1 x l F1 W e W2):∃ F,e=.returned x∧Two w0 P1 P2 l l2 F F2 W2∧(∀ g,F g→F1 g∨W.heap.size≤g)∧Only F1 W W2:=by
 obtain ⟨F,h1,h2,h3,h4⟩:=k
 exact ⟨F,h1,⟨h2,h.snd.other h3 (fun k h2 h1=>h.apart k h1 h2),fun k hk hf=>(h4 k hk).elim (fun q=>h.apart k q hf) (fun q=>by have:=(h.snd.lt k hf).2;omega),h.low.trans (h3.below (fun k hk=>(h.fst.lt k hk).1) h.low.size)⟩,h4,h3⟩
theorem Two.add2 (h:Two w0 P1 P2 l1 l2 F1 F2 W) (k:AddF w0.heap.size P2 x l F2 W e W2):∃ F,e=.returned x∧Two w0 P1 P2 l1 l F1 F W2∧(∀ g,F g→F2 g∨W.heap.size≤g)∧Only F2 W W2:=by
 obtain ⟨F,h1,h2,h3,h4⟩:=k
 exact ⟨F,h1,⟨h.fst.other h3 (fun k h1 h2=>h.apart k h1 h2),h2,fun k hk hf=>(h4 k hf).elim (fun q=>h.apart k hk q) (fun q=>by have:=(h.fst.lt k hk).2;omega),h.low.trans (h3.below (fun k hk=>(h.snd.lt k hk).1) h.low.size)⟩,h4,h3⟩
end
theorem two_start (w:World):Two w (.pointer (some ⟨w.heap.size,0,none⟩)) (.pointer (some ⟨w.heap.size+1,0,none⟩)) [] [] (fun k=>k=w.heap.size) (fun k=>k=w.heap.size+1) ((w.alloc (.cells #[.slice none 0 0] 97)).alloc (.cells #[.slice none 0 0] 97)):=by
 have h1:=wr_zero w (Nat.le_refl _)
 have b1:Below w.heap.size w (w.alloc (.cells #[.slice none 0 0] 97)):=(Below.refl _ w).alloc (Nat.le_refl _) _
 have e1:(w.alloc (.cells #[.slice none 0 0] 97)).heap.size=w.heap.size+1:=by simp
 have h2:=wr_zero (w.alloc (.cells #[.slice none 0 0] 97)) (base:=w.heap.size) b1.size
 rw [e1] at h2
 exact ⟨h1.below ((Below.refl _ _).alloc (Nat.le_refl _) _),h2,fun k h3 h4=>by omega,b1.alloc b1.size _⟩
theorem own_apart8 {W W2 W3:World} {base:Nat} {v x:Value} {l m:List Nat} {F:Nat→Prop} (hW:Wr W base v l F) (ho:W2.ownsRow W.heap.size 5 1 x m.length (cells8 m)) (hm:Small m) (h:Only F W2 W3):U8s W3 x m :=
 (U8s.of_own ho hm).part (fun g hg=>h.block g (ho.lt g hg).2 (fun hf=>by have:=(hW.lt g hf).2;have:=(ho.lt g hg).1;omega)) h.size
def fourB (n:Nat):List Nat:=[65,4] ++ big n 4
theorem four_any (n:Nat) (w:World):Calls Tryz.prog 103 #[.int .u32 n] w (Gives8 (fourB n) w):=by
 have S0:=hid (two_start w)
 have E4:=hid (put4 n)
 have E1:=hid (show ([]:List Nat) ++ [lo8 65] ++ sizedS (big n 4)=fourB n from by unfold sizedS fourB;rw [if_pos (by rw [big_len];omega),big_len];rfl)
 have EL:=hid (show (big n 4).length=4 from big_len n 4)
 have ES:=hid (big_small n 4)
 have EF:=hid (show (fourB n).length=6 from by unfold fourB;simp [big_len])
 generalize fourB n=M at E1 EF ⊢
 generalize big n 4=D at E4 E1 EL ES
 go_enter Tryz.func103,Tryz.ntmps103
 go_wp2_with (first
  | (have h:=S0.out;go_at_call 104;(refine (w32_put _ _ _ _ n _ h.snd (by simp) h.low.size).mono ?_;intro e z hA;obtain ⟨F,rfl,hS,-,-⟩:=h.add2 hA;rw [E4.out,List.nil_append] at hS;have S1:=hid hS;clear h hA hS S0))
  | (have h:=S1.out;go_at_call 62;(refine (w8_put _ _ _ _ 65 _ h.fst (by simp) h.low.size).mono ?_;intro e z hA;obtain ⟨G,rfl,hS,-,-⟩:=h.add1 hA;have S2:=hid hS;clear h hA hS S1))
  | (have h:=S2.out;go_at_call 63;(refine (wbytes_any _ _ _ _ _ h.snd (by rw [EL.out];omega)).mono ?_;rintro e z ⟨A,c,rfl,ho,hb⟩;have U:=hid (fun W3=>@own_apart8 _ _ W3 _ _ _ _ _ _ h.fst ho ES.out);have S3:=hid (h.below hb);clear h ho hb S2))
  | (have h:=S3.out;go_at_call 102;(refine (sizedO_any _ A c _ _ D _ _ h.fst (fun W3 hk=>U.out W3 hk) (by simp [EL.out]) h.low.size).mono ?_;intro e z hA;obtain ⟨H,rfl,hS,-,-⟩:=h.add1 hA;rw [E1.out] at hS;have S4:=hid hS;clear h hA hS S3))
  | (have h:=S4.out;go_at_call 63;(refine (wbytes_any _ _ _ _ _ h.fst (by rw [EF.out];omega)).mono ?_;rintro e z ⟨A2,c2,rfl,ho,hb⟩;have U2:=hid (And.intro ho (And.intro h.low hb));clear h ho hb S4)))
 go_ret
 obtain ⟨h1,h2,h3⟩:=U2.out
 exact ⟨A2,c2,rfl,own_base h1 h2.size,h2.trans (h3.mono h2.size)⟩
end Opn
namespace Opn
open Go.RowKit Mem Oct Att
open Go.Lib (hid)
theorem big_two (n:Nat):[lo8 ((n:Int) / 256),lo8 (n:Int)]=big n 2:=by
 rw [big2,show lo8 ((n:Int) / 256)=n / 256 % 256 from by unfold lo8;omega,lo8_nat]
def parsB (o:Op):List Nat:=if o.four then [lo8 2] ++ sizedS (fourB o.an) else []
theorem enc_parts (o:Op) (h:Nat) (hh:o.hold=(h:Int)):[] ++ [lo8 4] ++ [lo8 ((shortN o.an:Int) / 256),lo8 (shortN o.an:Int)] ++ [lo8 ((h:Int) / 256),lo8 (h:Int)] ++ big o.ri 4 ++ sizedS (parsB o)=encO o:=by
 rw [big_two,big_two]
 unfold encO parsB
 rw [hh,Int.toNat_natCast]
 have e6:(fourB o.an).length=6:=by unfold fourB;simp [big_len]
 have e1:sizedS (fourB o.an)=[6] ++ fourB o.an:=by unfold sizedS;rw [if_pos (by rw [e6];omega),e6];rfl
 cases o.four with
 | true =>
  rw [if_pos rfl,if_pos rfl,e1]
  have e8:([lo8 2] ++ ([6] ++ fourB o.an)).length=8:=by simp [e6]
  have e2:sizedS ([lo8 2] ++ ([6] ++ fourB o.an))=[8] ++ ([lo8 2] ++ ([6] ++ fourB o.an)):=by unfold sizedS;rw [if_pos (by rw [e8];omega),e8];rfl
  rw [e2]
  simp [fourB,show lo8 4=4 from rfl,show lo8 2=2 from rfl]
 | false =>
  rw [if_neg (by decide),if_neg (by decide)]
  simp [show lo8 4=4 from rfl,show sizedS []=[0] from rfl]
def EncF (o:Op) (w:World) (e:Ending) (w':World):Prop :=
 ∃ A c,e=.returned (.tuple #[.slice A (encO o).length c,.int .i64 0])∧w'.ownsRow w.heap.size 5 1 (.slice A (encO o).length c) (encO o).length (cells8 (encO o))∧Below w.heap.size w w'
structure EnSt (w:World) (o0 o1 o2 o3:Value) (w0:World) (P1 P2:Value) (l1 l2:List Nat) (F1 F2:Nat→Prop) (W:World):Prop where
 box:Box4 w0 w.heap.size 24 o0 o1 o2 o3
 bel:Below w.heap.size w w0
 two:Two w0 P1 P2 l1 l2 F1 F2 W
section
variable {w w0 W W2:World} {P1 P2 x o0 o1 o2 o3:Value} {l1 l2 l:List Nat} {F1 F2:Nat→Prop} {e:Ending}
theorem Two.as1 (h:Two w0 P1 P2 l1 l2 F1 F2 W) (e:l1=l):Two w0 P1 P2 l l2 F1 F2 W:=e ▸ h
theorem EnSt.cells (h:EnSt w o0 o1 o2 o3 w0 P1 P2 l1 l2 F1 F2 W):W.cell? ⟨w.heap.size,0,none⟩=some o0∧W.cell? ⟨w.heap.size,1,none⟩=some o1∧W.cell? ⟨w.heap.size,2,none⟩=some o2∧W.cell? ⟨w.heap.size,3,none⟩=some o3:=(h.box.keep h.two.low).cells
theorem EnSt.below (h:EnSt w o0 o1 o2 o3 w0 P1 P2 l1 l2 F1 F2 W) (hb:Below W.heap.size W W2):EnSt w o0 o1 o2 o3 w0 P1 P2 l1 l2 F1 F2 W2:=⟨h.box,h.bel,h.two.below hb⟩
theorem EnSt.add1 (h:EnSt w o0 o1 o2 o3 w0 P1 P2 l1 l2 F1 F2 W) (k:AddF w0.heap.size P1 x l F1 W e W2):∃ F,e=.returned x∧EnSt w o0 o1 o2 o3 w0 P1 P2 l l2 F F2 W2:=by
 obtain ⟨F,h1,h2,-,-⟩:=h.two.add1 k
 exact ⟨F,h1,h.box,h.bel,h2⟩
theorem EnSt.add2 (h:EnSt w o0 o1 o2 o3 w0 P1 P2 l1 l2 F1 F2 W) (k:AddF w0.heap.size P2 x l F2 W e W2):∃ F,e=.returned x∧EnSt w o0 o1 o2 o3 w0 P1 P2 l1 l F1 F W2:=by
 obtain ⟨F,h1,h2,-,-⟩:=h.two.add2 k
 exact ⟨F,h1,h.box,h.bel,h2⟩
end
theorem enc_bad (o:Op) (w:World) (hg:goodO o=false):Calls Tryz.prog 55 #[opn o] w (Tells (.tuple #[.slice none 0 0,.int .i64 1]) w):=by
 obtain ⟨oa,oh,oi,fr⟩:=o
 have CG:=hid (fun W=>pgood_any ⟨oa,oh,oi,fr⟩ W)
 rw [hg] at CG
 unfold opn at CG ⊢
 dsimp only at CG ⊢
 have HX:=hid (Box4.new w 24 (.int .u32 oa) (.int .i64 oh) (.int .u32 oi) (.bool fr))
 have HB:=hid ((Below.refl w.heap.size w).alloc (Nat.le_refl _) (.cells #[.int .u32 oa,.int .i64 oh,.int .u32 oi,.bool fr] 24))
 obtain ⟨c0,c1,c2,c3⟩:=HX.out.cells
 clear hg
 go_enter Tryz.func55,Tryz.ntmps55
 go_wp2_with (go_at_call 27;refine (CG.out _).mono ?_;rintro e x ⟨rfl,hb⟩;have B1:=hid (HB.out.trans (hb.mono HB.out.size));clear hb)
 go_ret2
 exact ⟨rfl,B1.out⟩
theorem encO_small (o:Op):Small (encO o):=by
 unfold encO
 refine Small.append (Small.append (Small.append (Small.append (by unfold Small;decide) (big_small _ _)) (big_small _ _)) (big_small _ _)) ?_
 split
 ·exact Small.append (by unfold Small;decide) (big_small _ _)
 ·unfold Small;decide
theorem enc_good (oa oh oi : Nat) (fr : Bool) (w : World) (ho : (Op.mk oa oh oi fr).ok) (hg : goodO ⟨oa, oh, oi, fr⟩ = true) (hbf : fr = false → oa ≤ 65535) : Calls Tryz.prog 55 #[opn ⟨oa, oh, oi, fr⟩] w (EncF ⟨oa, oh, oi, fr⟩ w) := by
  have CG:=hid (fun W=>pgood_any ⟨oa,oh,oi,fr⟩ W)
  rw [hg] at CG
  have hep:=enc_parts ⟨oa,oh,oi,fr⟩ oh rfl
  have HD:=hid (show (fourB oa).length=6 from by unfold fourB;simp [big_len])
  have HDS:=hid (show Small (fourB oa) from Small.append (by unfold Small;decide) (big_small oa 4))
  have hp1:fr=true→[] ++ [lo8 2] ++ sizedS (fourB oa)=parsB ⟨oa,oh,oi,fr⟩:=fun e=>by subst e;rfl
  have hp0:fr=false→[]=parsB ⟨oa,oh,oi,fr⟩:=fun e=>by subst e;rfl
  have HPL:=hid (show (parsB ⟨oa,oh,oi,fr⟩).length≤10 from by unfold parsB sizedS fourB;split <;> simp [big_len])
  have HPS := hid (show Small (parsB ⟨oa, oh, oi, fr⟩) from by
    cases fr with
    | false=>exact small_nil
    | true=>rw [← hp1 rfl];exact Small.append (Small.append small_nil (by unfold Small;decide)) (by unfold sizedS;split;exact Small.append (fun x hx=>by simp at hx;subst hx;exact lo8_lt _) HDS.out;exact small_nil))
  generalize parsB ⟨oa,oh,oi,fr⟩=PB at hep hp1 hp0 HPL HPS
  have HEL:=hid (show (encO ⟨oa,oh,oi,fr⟩).length≤30 from by unfold encO;split <;> simp [big_len])
  have C4:=hid (fun W=>four_any oa W)
  have hoa:oa<4294967296:=ho.1
  unfold opn at CG ⊢
  unfold EncF
  dsimp only at CG hep ⊢
  generalize fourB oa=D at HD HDS C4 hp1
  generalize encO ⟨oa,oh,oi,fr⟩=E at hep HEL ⊢
  have E4:=hid (put4 oi)
  have HX:=hid (Box4.new w 24 (.int .u32 oa) (.int .i64 oh) (.int .u32 oi) (.bool fr))
  have HB:=hid ((Below.refl w.heap.size w).alloc (Nat.le_refl _) (.cells #[.int .u32 oa,.int .i64 oh,.int .u32 oi,.bool fr] 24))
  obtain ⟨c0,c1,c2,c3⟩:=HX.out.cells
  clear hg ho
  by_cases hb:65535<oa
  focus
    have z1:(oa:Int) > 65535:=by omega
    rw [show shortN oa=23456 by unfold shortN;rw [if_pos hb],show ((23456:Nat):Int)=23456 from rfl] at hep
    have wo:IntKind.i64.wrap 23456=23456:=by decide
    obtain rfl : fr = true := by cases fr with
      | true=>rfl
      | false=>exact absurd (hbf rfl) (by omega)
    have HP:=hid (hp1 rfl)
  rotate_left
  have z1:(oa:Int)≤65535:=by omega
  have wo:IntKind.i64.wrap (oa:Int)=(oa:Int):=IntWalk.i64_in _ (by omega)
  rw [show shortN oa=oa by unfold shortN;rw [if_neg hb]] at hep
  cases fr
  focus
    have HP0:=hid (hp0 rfl)
  rotate_left
  focus
    have HP:=hid (hp1 rfl)
  all_goals
    have EP:=hid hep
    clear hep hp1 hp0 hb hbf
    go_enter Tryz.func55,Tryz.ntmps55
    go_wp2_with (go_at_call 27;refine (CG.out _).mono ?_;rintro e x ⟨rfl,hb⟩;have T0:=hid (EnSt.mk (HX.out.keep hb) (HB.out.trans (hb.mono HB.out.size)) (two_start x));clear c0 c1 c2 c3;obtain ⟨c0,c1,c2,c3⟩:=(HX.out.keep hb).cells;obtain ⟨q0,q1,q2,q3⟩:=T0.out.cells;clear hb)
    replace T0:=hid (T0.out.below (Below.refl _ _).drew)
    clear q0 q1 q2 q3
    obtain ⟨q0,q1,q2,q3⟩:=T0.out.cells
    first
      | (have tok := HP0.out
         have T3:=hid (EnSt.mk T0.out.box T0.out.bel (T0.out.two.as1 tok))
         clear T0)
      | (have tok := HP.out
         go_region_held3 (fun w' => w'.cell? ⟨w.heap.size, 0, none⟩ = some (.int .u32 oa) ∧ w'.cell? ⟨w.heap.size, 1, none⟩ = some (.int .i64 oh) ∧ w'.cell? ⟨w.heap.size, 2, none⟩ = some (.int .u32 oi)) (exact ⟨by assumption, by assumption, by assumption⟩) (first
           | (have h:=T0.out;go_at_call 62;refine (w8_put _ _ _ _ _ _ h.two.fst (by simp) h.two.low.size).mono ?_;intro e z hA;obtain ⟨F,rfl,hS⟩:=h.add1 hA;have T1:=hid hS;clear h hA hS T0;clear q0 q1 q2 q3;obtain ⟨q0,q1,q2,q3⟩:=T1.out.cells)
           | (have h:=T1.out;go_at_call 103;refine (C4.out _).mono ?_;rintro e z ⟨A,c,rfl,ho,hb⟩;have U:=hid (fun W3=>@own_apart8 _ _ W3 _ _ _ _ _ _ h.two.fst ho HDS.out);have T2:=hid (h.below hb);clear h ho hb T1;clear q0 q1 q2 q3;obtain ⟨q0,q1,q2,q3⟩:=T2.out.cells)
           | (have h:=T2.out;go_at_call 102;refine (sizedO_any _ A c _ _ D _ _ h.two.fst (fun W3 hk=>U.out W3 hk) (by simp [HD.out]) h.two.low.size).mono ?_;intro e z hA;obtain ⟨F,rfl,hS⟩:=h.add1 hA;rw [HP.out] at hS;have T3:=hid hS;clear h hA hS T2;clear q0 q1 q2 q3;obtain ⟨q0,q1,q2,q3⟩:=T3.out.cells))
         replace T3:=hid (T3.out.below (Below.refl _ _).drew)
         clear q0 q1 q2 q3
         obtain ⟨q0,q1,q2,q3⟩:=T3.out.cells
         go_wp2)
    go_region_held3 (fun w' => w'.cell? ⟨w.heap.size, 0, none⟩ = some (.int .u32 oa) ∧ w'.cell? ⟨w.heap.size, 1, none⟩ = some (.int .i64 oh) ∧ w'.cell? ⟨w.heap.size, 2, none⟩ = some (.int .u32 oi)) (exact ⟨by assumption, by assumption, by assumption⟩) (first
      | (have h:=T3.out;go_at_call 62;refine (w8_put _ _ _ _ _ _ h.two.snd (by simp) h.two.low.size).mono ?_;intro e z hA;obtain ⟨F,rfl,hS⟩:=h.add2 hA;have T4:=hid hS;clear h hA hS T3;clear q0 q1 q2 q3;obtain ⟨q0,q1,q2,q3⟩:=T4.out.cells)
      | (have h:=T4.out;go_at_call 61;refine (w16_put _ _ _ _ _ _ h.two.snd (by simp) h.two.low.size).mono ?_;intro e z hA;obtain ⟨F,rfl,hS⟩:=h.add2 hA;have T5:=hid hS;clear h hA hS T4;clear q0 q1 q2 q3;obtain ⟨q0,q1,q2,q3⟩:=T5.out.cells)
      | (have h:=T5.out;go_at_call 61;refine (w16_put _ _ _ _ _ _ h.two.snd (by simp) h.two.low.size).mono ?_;intro e z hA;obtain ⟨F,rfl,hS⟩:=h.add2 hA;have T6:=hid hS;clear h hA hS T5;clear q0 q1 q2 q3;obtain ⟨q0,q1,q2,q3⟩:=T6.out.cells)
      | (have h:=T6.out;go_at_call 104;refine (w32_put _ _ _ _ oi _ h.two.snd (by simp) h.two.low.size).mono ?_;intro e z hA;obtain ⟨F,rfl,hS⟩:=h.add2 hA;rw [E4.out] at hS;have T7:=hid hS;clear h hA hS T6;clear q0 q1 q2 q3;obtain ⟨q0,q1,q2,q3⟩:=T7.out.cells)
      | (have h:=T7.out;go_at_call 63;refine (wbytes_any _ _ _ _ _ h.two.fst (by have:=HPL.out;omega)).mono ?_;rintro e z ⟨A2,c2,rfl,ho,hb⟩;have V:=hid (fun W3=>@own_apart8 _ _ W3 _ _ _ _ _ _ h.two.snd ho HPS.out);have T8:=hid (h.below hb);clear h ho hb T7;clear q0 q1 q2 q3;obtain ⟨q0,q1,q2,q3⟩:=T8.out.cells)
      | (have h:=T8.out;go_at_call 102;refine (sizedO_any _ A2 c2 _ _ PB _ _ h.two.snd (fun W3 hk=>V.out W3 hk) (by have:=HPL.out;simp [big_len];omega) h.two.low.size).mono ?_;intro e z hA;obtain ⟨F,rfl,hS⟩:=h.add2 hA;rw [EP.out] at hS;have T9:=hid hS;clear h hA hS T8;clear q0 q1 q2 q3;obtain ⟨q0,q1,q2,q3⟩:=T9.out.cells))
    go_wp2_with (have h:=T9.out;go_at_call 63;refine (wbytes_any _ _ _ _ _ h.two.snd (by have:=HEL.out;omega)).mono ?_;rintro e z ⟨A3,c3,rfl,ho,hb⟩;have T10:=hid (And.intro ho (And.intro h.bel (And.intro h.two.low hb)));clear h ho hb T9 q0 q1 q2 q3)
    go_ret2
    obtain ⟨h1,h2,h3,h4⟩:=T10.out
    have h5:=h2.trans (h3.mono h2.size)
    exact ⟨A3,c3,rfl,own_base h1 h5.size,h5.trans (h4.mono h5.size)⟩
theorem encode_any (o:Op) (w:World) (ho:o.ok):Calls Tryz.prog 55 #[opn o] w (fun e w'=>if goodO o=true then EncF o w e w' else Tells (.tuple #[.slice none 0 0,.int .i64 1]) w e w'):=by
 by_cases hg:goodO o=true
 ·simp only [hg,if_true]
  obtain ⟨oa,oh,oi,fr⟩:=o
  have hg2:=hg
  unfold goodO holdsB at hg2
  simp only [Bool.and_eq_true,Bool.or_eq_true,decide_eq_true_eq] at hg2
  obtain ⟨h,rfl⟩:=Int.eq_ofNat_of_zero_le (show 0≤oh by omega)
  exact enc_good oa h oi fr w ho hg (fun e=>by subst e;have h3:=hg2.2;simp at h3;omega)
 ·have hg2:goodO o=false:=by simpa using hg
  simp only [hg2,Bool.false_eq_true,if_false]
  exact enc_bad o w hg2
end Opn
namespace Opn
open Go.RowKit Mem Oct Att
open Go.Lib (hid)
theorem rholds_any (n:Int) (w:World):Calls Tryz.prog 69 #[.int .i64 n] w (Tells (.bool (holdsB n)) w):=by
 rcases holdsB_cases n with ⟨rfl,e⟩ | ⟨h0,h1,e⟩ | ⟨h1,h2,e⟩ | ⟨h1,e⟩
 ·rw [e]
  clear e
  go_enter Tryz.func69,Tryz.ntmps69
  go_wp2
  go_ret
  exact ⟨rfl,Below.refl _ _⟩
 ·rw [e]
  clear e
  have y0:(n == 0)=false:=by simp [h0]
  have y1:decide (2<n)=false:=by simp;omega
  clear h0 h1
  go_enter Tryz.func69,Tryz.ntmps69
  go_wp2
  go_ret
  exact ⟨rfl,Below.refl _ _⟩
 ·rw [e]
  clear e
  have y0:(n == 0)=false:=by simp;omega
  have y1:2<n:=by omega
  have y2:n<65536:=by omega
  go_enter Tryz.func69,Tryz.ntmps69
  go_wp2
  go_ret
  exact ⟨rfl,Below.refl _ _⟩
 ·rw [e]
  clear e
  have y0:(n == 0)=false:=by simp;omega
  have y1:decide (n<65536)=false:=by simp;omega
  have y2:2<n:=by omega
  clear h1
  go_enter Tryz.func69,Tryz.ntmps69
  go_wp2
  go_ret
  exact ⟨rfl,Below.refl _ _⟩
theorem rgood_any (o:Op) (w:World):Calls Tryz.prog 30 #[opn o] w (Tells (.bool (goodO o)) w):=by
 obtain ⟨an,hold,ri,fr⟩:=o
 unfold opn goodO
 dsimp only
 have CH:=hid (fun W=>rholds_any hold W)
 have HX:=hid (Box4.new w 24 (.int .u32 an) (.int .i64 hold) (.int .u32 ri) (.bool fr))
 have HB:=hid ((Below.refl w.heap.size w).alloc (Nat.le_refl _) (.cells #[.int .u32 an,.int .i64 hold,.int .u32 ri,.bool fr] 24))
 obtain ⟨c0,c1,c2,c3⟩:=HX.out.cells
 generalize holdsB hold=hb at CH ⊢
 rcases Nat.eq_zero_or_pos an with rfl | h1
 ·simp only [ne_eq,not_true_eq_false,decide_false,Bool.false_and]
  go_enter Tryz.func30,Tryz.ntmps30
  go_wp2
  go_ret
  exact ⟨rfl,HB.out⟩
 have y1:((an:Int) != 0)=true:=by simp;omega
 rw [decide_eq_true (show an≠0 by omega)]
 simp only [Bool.true_and]
 rcases Nat.eq_zero_or_pos ri with rfl | h2
 ·simp only [ne_eq,not_true_eq_false,decide_false,Bool.false_and]
  go_enter Tryz.func30,Tryz.ntmps30
  go_wp2
  go_ret
  exact ⟨rfl,HB.out⟩
 have y2:((ri:Int) != 0)=true:=by simp;omega
 rw [decide_eq_true (show ri≠0 by omega)]
 simp only [Bool.true_and]
 by_cases h3:an<65536
 ·have z1:(an:Int)<65536:=by omega
  rw [decide_eq_true h3]
  cases fr <;> cases hb <;> (go_enter Tryz.func30,Tryz.ntmps30;go_wp2_with (go_at_call 69;refine (CH.out _).mono ?_;rintro e x ⟨rfl,hb1⟩;have B1:=hid (HB.out.trans (hb1.mono HB.out.size));obtain ⟨c0,c1,c2,c3⟩:=(HX.out.keep hb1).cells;clear hb1);go_ret;exact ⟨rfl,B1.out⟩)
 ·have z1:decide ((an:Int)<65536)=false:=by simp;omega
  rw [decide_eq_false h3]
  cases fr <;> cases hb <;> (go_enter Tryz.func30,Tryz.ntmps30;go_wp2_with (go_at_call 69;refine (CH.out _).mono ?_;rintro e x ⟨rfl,hb1⟩;have B1:=hid (HB.out.trans (hb1.mono HB.out.size));obtain ⟨c0,c1,c2,c3⟩:=(HX.out.keep hb1).cells;clear hb1);go_ret;exact ⟨rfl,B1.out⟩)
structure BxO (w0:World) (x0 x1 x2 x3:Value) (v:Value) (n:Nat) (l:List Nat) (W:World):Prop where
 b4:Box4 W w0.heap.size 24 x0 x1 x2 x3
 own:W.ownsRow (w0.heap.size+1) 5 1 v n (cells8 l)
 low:Below w0.heap.size w0 W
section
variable {w0 W W2:World} {x0 x1 x2 x3 v v2:Value} {l l2:List Nat} {n n2:Nat}
theorem BxO.below (h:BxO w0 x0 x1 x2 x3 v n l W) (hb:Below W.heap.size W W2):BxO w0 x0 x1 x2 x3 v n l W2 :=
 ⟨h.b4.keep hb,own_keep h.own hb,h.low.trans (hb.mono h.low.size)⟩
theorem BxO.grow (h:BxO w0 x0 x1 x2 x3 v n l W) (hg:W.grownBy W2 v.ownBlock) (ho:W2.ownsRow (w0.heap.size+1) 5 1 v2 n2 (cells8 l2)):BxO w0 x0 x1 x2 x3 v2 n2 l2 W2 :=
 ⟨⟨(hg.block _ h.b4.lt (fun he=>by have:=(h.own.lt _ he.symm).1;omega)).trans h.b4.blk⟩,ho,h.low.trans (below_of_grown h.own hg h.b4.lt |>.mono (Nat.le_succ _))⟩
theorem bxo_start (w:World) (x0 x1 x2 x3:Value):BxO w x0 x1 x2 x3 (.slice (some ⟨w.heap.size+1,0,none⟩) 1 1) 1 [4] ((w.alloc (.cells #[x0,x1,x2,x3] 24)).alloc (.cells #[.int .u8 4] 5)):=by
 have hb:Below w.heap.size w (w.alloc (.cells #[x0,x1,x2,x3] 24)):=(Below.refl _ w).alloc (Nat.le_refl _) _
 have hs:(w.alloc (.cells #[x0,x1,x2,x3] 24)).heap.size=w.heap.size+1:=by simp
 refine ⟨(Box4.new w _ x0 x1 x2 x3).keep ((Below.refl _ _).alloc (Nat.le_refl _) _),?_,hb.alloc hb.size _⟩
 have h:=own_one8 (w:=w.alloc (.cells #[x0,x1,x2,x3] 24)) (base:=w.heap.size+1) (.int .u8 4) (by rw [hs];exact Nat.le_refl _)
 rw [hs] at h
 exact h
end
def GivesB (n k:Nat) (w:World) (e:Ending) (w':World):Prop:=∃ A c,e=.returned (.slice A k c)∧Row w' 1 (.slice A k c) k (cells8 (big n k))∧Below w.heap.size w w'
theorem bigk_any (n k:Nat) (hn:n<18446744073709551616) (hk:k≤4) (w:World):Calls Tryz.prog 42 #[.int .u64 n,.int .i64 k] w (GivesB n k w) :=
 (big_any n k w hn hk).mono fun e w' h=>by
  obtain ⟨A,c,h1,h2,h3⟩:=h
  rw [big_len] at h1 h2
  exact ⟨A,c,h1,Row.of_own h2,h3⟩
theorem one_row0 (w:World):Row (w.alloc (.cells #[.int .u8 0] 5)) 1 (.slice (some ⟨w.heap.size,0,none⟩) 1 1) 1 (cells8 [0]):=Row.one w _ _
theorem lit5 (w:World):Row (w.alloc (.cells #[.int .u8 8,.int .u8 2,.int .u8 6,.int .u8 65,.int .u8 4] 5)).drew 1 (.slice (some ⟨w.heap.size,0,none⟩) 5 5) 5 (cells8 [8,2,6,65,4]):=by
 have h:=World.ownsRow_lit (base:=w.heap.size) (e:=5) (size:=1) w #[.int .u8 8,.int .u8 2,.int .u8 6,.int .u8 65,.int .u8 4] 5 (Nat.le_refl _) (by decide) rfl
 exact (Row.of_own h).keep (Below.refl _ _).drew
theorem renc_good (oa oh oi : Nat) (fr : Bool) (w : World) (h1 : oa < 4294967296) (h2 : oh < 65536) (h3 : oi < 4294967296) (hbf : fr = false → oa ≤ 65535) : Calls Tryz.prog 43 #[opn ⟨oa, oh, oi, fr⟩] w (Gives8 (encO ⟨oa, oh, oi, fr⟩) w) := by
  obtain ⟨i0,E0⟩:=elem8
  have hE:encO ⟨oa,oh,oi,fr⟩=if fr then [4] ++ big (shortN oa) 2 ++ big oh 2 ++ big oi 4 ++ [8,2,6,65,4] ++ big oa 4 else [4] ++ big (shortN oa) 2 ++ big oh 2 ++ big oi 4 ++ [0]:=by unfold encO;cases fr <;> dsimp only <;> rw [Int.toNat_natCast] <;> simp
  have hL:(encO ⟨oa,oh,oi,fr⟩).length=if fr then 18 else 10:=by rw [hE];cases fr <;> simp [big_len]
  have hsn:shortN oa<4294967296:=by unfold shortN;split <;> omega
  have CS:=hid (fun (x:Int) (hx:x=(shortN oa:Nat)) W=>show Calls Tryz.prog 42 #[.int .u64 x,.int .i64 2] W (GivesB (shortN oa) 2 W) from by subst hx;exact bigk_any (shortN oa) 2 (by omega) (by omega) W)
  have hs:shortN oa=if 65535<oa then 23456 else oa:=rfl
  unfold Gives8 opn
  dsimp only
  generalize encO ⟨oa,oh,oi,fr⟩=E at hE hL ⊢
  generalize shortN oa=SN at hE CS hs
  have CH:=hid (fun W=>show Calls Tryz.prog 42 #[.int .u64 oh,.int .i64 2] W (GivesB oh 2 W) from bigk_any oh 2 (by omega) (by omega) W)
  have CI:=hid (fun W=>show Calls Tryz.prog 42 #[.int .u64 oi,.int .i64 4] W (GivesB oi 4 W) from bigk_any oi 4 (by omega) (by omega) W)
  have CA:=hid (fun W=>show Calls Tryz.prog 42 #[.int .u64 oa,.int .i64 4] W (GivesB oa 4 W) from bigk_any oa 4 (by omega) (by omega) W)
  have wa:IntKind.u64.wrap (oa:Int)=(oa:Int):=by rw [IntKind.wrap_u64];omega
  have wh:IntKind.u64.wrap (oh:Int)=(oh:Int):=by rw [IntKind.wrap_u64];omega
  have wi:IntKind.u64.wrap (oi:Int)=(oi:Int):=by rw [IntKind.wrap_u64];omega
  have T0:=hid (bxo_start w (.int .u32 oa) (.int .i64 oh) (.int .u32 oi) (.bool fr))
  obtain ⟨q0,q1,q2,q3⟩:=(Box4.new w 24 (.int .u32 oa) (.int .i64 oh) (.int .u32 oi) (.bool fr)).cells
  by_cases hb:65535<oa
  focus
    have z1:(oa:Int) > 65535:=by omega
    obtain rfl : fr = true := by cases fr with
      | true=>rfl
      | false=>exact absurd (hbf rfl) (by omega)
    rw [if_pos hb] at hs
    have HX:=hid (show (23456:Int)=(SN:Nat) by rw [hs];rfl)
    have KT:=hid True.intro
  rotate_left
  have z1:(oa:Int)≤65535:=by omega
  rw [if_neg hb] at hs
  have HX:=hid (show (oa:Int)=(SN:Nat) by rw [hs])
  cases fr
  focus have KF:=hid True.intro
  rotate_left
  focus have KT:=hid True.intro
  all_goals
    have EE:=hid hE
    have EL:=hid hL
    clear h1 h2 h3 hb hs hE hL hbf hsn
    go_enter Tryz.func43,Tryz.ntmps43
    go_wp2_with (first
      | (have h:=T0.out;go_at_call 42;refine (CS.out _ HX.out _).mono ?_;rintro e z ⟨A2,k2,rfl,hu,hb⟩;have U1:=hid hu;have T1:=hid (h.below hb);clear hu hb h T0;clear q0 q1 q2 q3;obtain ⟨q0,q1,q2,q3⟩:=T1.out.b4.cells)
      | (have h:=T1.out;at_builtin;refine wpList_append_row rfl (.tmp 10) (.tmp 12) rfl E0 (w.heap.size+1) _ 1 _ rfl h.own _ 2 _ rfl U1.out (ones8 _) (by unfold maxLen;omega) (by omega) h.b4.lt 3 rfl ?_;intro A3 k3 z hown hgr hat hb1;rw [← cells8_append] at hown;have T2:=hid (h.grow (v2:=.slice A3 3 k3) (n2:=3) hgr hown);clear hown hgr hat hb1 h T1 U1;clear q0 q1 q2 q3;obtain ⟨q0,q1,q2,q3⟩:=T2.out.b4.cells))
    replace T2:=hid (T2.out.below (Below.refl _ _).drew)
    clear q0 q1 q2 q3
    obtain ⟨q0,q1,q2,q3⟩:=T2.out.b4.cells
    go_region_held3 (fun w' => w'.cell? ⟨w.heap.size, 0, none⟩ = some (.int .u32 oa) ∧ w'.cell? ⟨w.heap.size, 1, none⟩ = some (.int .i64 oh) ∧ w'.cell? ⟨w.heap.size, 2, none⟩ = some (.int .u32 oi)) (exact ⟨by assumption, by assumption, by assumption⟩) (first
      | (have h:=T2.out;go_at_call 42;refine (CH.out _).mono ?_;rintro e z ⟨A2,k2,rfl,hu,hb⟩;have U3:=hid hu;have T3:=hid (h.below hb);clear hu hb h T2;clear q0 q1 q2 q3;obtain ⟨q0,q1,q2,q3⟩:=T3.out.b4.cells)
      | (have tok := U3.out
         have h:=T3.out
         refine step_append_row (by rfl) (.tmp 14) (.tmp 18) (by rfl) E0 (w.heap.size+1) _ 3 (cells8 ([4] ++ big SN 2)) (by rfl) ?_ _ 2 (cells8 (big oh 2)) (by rfl) ?_ (ones8 _) ?_ ?_ ?_ 5 (by rfl) ?_
         · exact h.own
         · exact tok
         · unfold maxLen;omega
         · omega
         · exact h.b4.lt
         intro A4 k4 z hown hgr hat hb1
         rw [← cells8_append] at hown
         have T4:=hid (h.grow (v2:=.slice A4 5 k4) (n2:=5) hgr hown)
         clear hown hgr hat hb1 tok h U3 T3
         clear q0 q1 q2 q3;obtain ⟨q0,q1,q2,q3⟩:=T4.out.b4.cells)
      | (have h:=T4.out;go_at_call 42;refine (CI.out _).mono ?_;rintro e z ⟨A2,k2,rfl,hu,hb⟩;have U5:=hid hu;have T5:=hid (h.below hb);clear hu hb h T4;clear q0 q1 q2 q3;obtain ⟨q0,q1,q2,q3⟩:=T5.out.b4.cells)
      | (have tok := U5.out
         have h:=T5.out
         refine step_append_row (by rfl) (.tmp 19) (.tmp 23) (by rfl) E0 (w.heap.size+1) _ 5 (cells8 ([4] ++ big SN 2 ++ big oh 2)) (by rfl) ?_ _ 4 (cells8 (big oi 4)) (by rfl) ?_ (ones8 _) ?_ ?_ ?_ 9 (by rfl) ?_
         · exact h.own
         · exact tok
         · unfold maxLen;omega
         · omega
         · exact h.b4.lt
         intro A4 k4 z hown hgr hat hb1
         rw [← cells8_append] at hown
         have T6:=hid (h.grow (v2:=.slice A4 9 k4) (n2:=9) hgr hown)
         clear hown hgr hat hb1 tok h U5 T5
         clear q0 q1 q2 q3;obtain ⟨q0,q1,q2,q3⟩:=T6.out.b4.cells))
    first
      | (have tok := KF.out
         have R7:=hid (one_row0 z)
         have T7:=hid (T6.out.below ((Below.refl _ z).alloc (Nat.le_refl _) (.cells #[.int .u8 0] 5)))
         go_wp2_with (have h:=T7.out;at_builtin;refine wpList_append_row rfl (.tmp 28) (.tmp 29) rfl E0 (w.heap.size+1) _ 9 _ rfl h.own _ 1 (cells8 [0]) rfl R7.out (ones8 _) (by unfold maxLen;omega) (by omega) h.b4.lt 10 rfl ?_;intro A8 k8 z hown hgr hat hb1;rw [← cells8_append] at hown;rw [show [4] ++ big SN 2 ++ big oh 2 ++ big oi 4 ++ [0]=E from EE.out.symm] at hown;have T10:=hid (h.grow (v2:=.slice A8 10 k8) (n2:=10) hgr hown);clear hown hgr hat hb1 h T7 R7))
      | (have tok := KT.out
         have U7:=hid (lit5 z)
         have hl:Below z.heap.size z (z.alloc (.cells #[.int .u8 8,.int .u8 2,.int .u8 6,.int .u8 65,.int .u8 4] 5)).drew:=((Below.refl _ z).alloc (Nat.le_refl _) _).drew
         have T7:=hid (T6.out.below hl)
         have T6d:=hid (T6.out.below (Below.refl _ _).drew)
         clear hl
         go_wp2
         clear q0 q1 q2 q3
         obtain ⟨q0,q1,q2,q3⟩:=T6d.out.b4.cells
         obtain ⟨e0,e1,e2,e3⟩:=T7.out.b4.cells
         clear T6
         go_region_held3 (fun w' => w'.cell? ⟨w.heap.size, 0, none⟩ = some (.int .u32 oa) ∧ w'.cell? ⟨w.heap.size, 1, none⟩ = some (.int .i64 oh) ∧ w'.cell? ⟨w.heap.size, 2, none⟩ = some (.int .u32 oi)) (exact ⟨by assumption, by assumption, by assumption⟩) (first
           | (have tok := U7.out
              have h:=T7.out
              refine step_append_row (by rfl) (.tmp 31) (.tmp 32) (by rfl) E0 (w.heap.size+1) _ 9 (cells8 ([4] ++ big SN 2 ++ big oh 2 ++ big oi 4)) (by rfl) ?_ _ 5 (cells8 ([8,2,6,65,4])) (by rfl) ?_ (ones8 _) ?_ ?_ ?_ 14 (by rfl) ?_
              · exact h.own
              · exact tok
              · unfold maxLen;omega
              · omega
              · exact h.b4.lt
              intro A4 k4 z hown hgr hat hb1
              rw [← cells8_append] at hown
              have T8:=hid (h.grow (v2:=.slice A4 14 k4) (n2:=14) hgr hown)
              clear hown hgr hat hb1 tok h U7 T7 e0 e1 e2 e3
              clear q0 q1 q2 q3;obtain ⟨q0,q1,q2,q3⟩:=T8.out.b4.cells)
           | (have h:=T8.out;go_at_call 42;refine (CA.out _).mono ?_;rintro e z ⟨A2,k2,rfl,hu,hb⟩;have U9:=hid hu;have T9:=hid (h.below hb);clear hu hb h T8;clear q0 q1 q2 q3;obtain ⟨q0,q1,q2,q3⟩:=T9.out.b4.cells)
           | (have tok := U9.out
              have h:=T9.out
              refine step_append_row (by rfl) (.tmp 33) (.tmp 37) (by rfl) E0 (w.heap.size+1) _ 14 (cells8 ([4] ++ big SN 2 ++ big oh 2 ++ big oi 4 ++ [8,2,6,65,4])) (by rfl) ?_ _ 4 (cells8 (big oa 4)) (by rfl) ?_ (ones8 _) ?_ ?_ ?_ 18 (by rfl) ?_
              · exact h.own
              · exact tok
              · unfold maxLen;omega
              · omega
              · exact h.b4.lt
              intro A4 k4 z hown hgr hat hb1
              rw [← cells8_append] at hown
              rw [show [4] ++ big SN 2 ++ big oh 2 ++ big oi 4 ++ [8,2,6,65,4] ++ big oa 4=E from EE.out.symm] at hown
              have T10:=hid (h.grow (v2:=.slice A4 18 k4) (n2:=18) hgr hown)
              clear hown hgr hat hb1 tok h U9 T9
              clear q0 q1 q2 q3;obtain ⟨q0,q1,q2,q3⟩:=T10.out.b4.cells))
         go_wp2)
    go_ret
    exact ⟨_,_,by rw [EL.out];rfl,by rw [EL.out];exact own_base T10.out.own (Nat.le_succ _),T10.out.low⟩
theorem rencode_any (o:Op) (w:World) (ho:o.ok) (hg:goodO o=true):Calls Tryz.prog 43 #[opn o] w (Gives8 (encO o) w):=by
 obtain ⟨oa,oh,oi,fr⟩:=o
 have hg2:=hg
 unfold goodO holdsB at hg2
 simp only [Bool.and_eq_true,Bool.or_eq_true,decide_eq_true_eq] at hg2
 obtain ⟨h,rfl⟩:=Int.eq_ofNat_of_zero_le (show 0≤oh by omega)
 exact renc_good oa h oi fr w ho.1 (by omega) ho.2.2 (fun e=>by subst e;have h3:=hg2.2;simp at h3;omega)
end Opn
namespace Ntc
open Go.RowKit Mem Oct Att
open Go.Lib (hid)
theorem ntc_box (w:World) (x y z:Value):Below w.heap.size w (w.alloc (.cells #[x,y,z] 34)):=(Below.refl _ w).alloc (Nat.le_refl _) _
theorem good_any (v:Value) (n:No) (w:World) (h:Note w v n):Calls Tryz.prog 29 #[v] w (Tells (.bool (goodN n)) w):=by
 obtain ⟨-,-,vd,rfl,hd⟩:=h
 obtain ⟨c,s,l⟩:=n
 dsimp only at hd ⊢
 obtain ⟨A,cp,rfl,-,-⟩:=hd.form
 have BB:=hid (ntc_box w (.int .i64 c) (.int .i64 s) (.slice A l.length cp))
 clear hd
 unfold goodN
 dsimp only
 rcases (show c<1∨1≤c∧255<c∨1≤c∧c≤255∧s<0∨1≤c∧c≤255∧0≤s∧255<s∨1≤c∧c≤255∧0≤s∧s≤255 by omega) with h1 | ⟨h1,h2⟩ | ⟨h1,h2,h3⟩ | ⟨h1,h2,h3,h4⟩ | ⟨h1,h2,h3,h4⟩
 all_goals
  first
   | rw [decide_eq_false (by omega)]
   | rw [show decide (1≤c∧c≤255∧0≤s∧s≤255∧l.length≤4075)=decide ((l.length:Int)≤4075) from decide_eq_decide.2 (by omega)]
  go_enter Tryz.func29,Tryz.ntmps29
  go_wp2
  go_ret
  exact ⟨rfl,BB.out⟩
theorem rgood_any (v:Value) (n:No) (w:World) (h:Note w v n):Calls Tryz.prog 32 #[v] w (Tells (.bool (goodN n)) w):=by
 obtain ⟨-,-,vd,rfl,hd⟩:=h
 obtain ⟨c,s,l⟩:=n
 dsimp only at hd ⊢
 obtain ⟨A,cp,rfl,-,-⟩:=hd.form
 have BB:=hid (ntc_box w (.int .i64 c) (.int .i64 s) (.slice A l.length cp))
 clear hd
 unfold goodN
 dsimp only
 rcases (show c≤0∨0<c∧256≤c∨0<c∧c<256∧s<0∨0<c∧c<256∧0≤s∧256≤s∨0<c∧c<256∧0≤s∧s<256 by omega) with h1 | ⟨h1,h2⟩ | ⟨h1,h2,h3⟩ | ⟨h1,h2,h3,h4⟩ | ⟨h1,h2,h3,h4⟩
 all_goals
  first
   | rw [decide_eq_false (by omega)]
   | rw [show decide (1≤c∧c≤255∧0≤s∧s≤255∧l.length≤4075)=decide ((l.length:Int)≤4075) from decide_eq_decide.2 (by omega)]
  go_enter Tryz.func32,Tryz.ntmps32
  go_wp2
  go_ret
  exact ⟨rfl,BB.out⟩
theorem same_any (va vb:Value) (a b:No) (w:World) (ha:Note w va a) (hb:Note w vb b):Calls Tryz.prog 40 #[va,vb] w (Tells (.bool (sameN a b)) w):=by
 obtain ⟨-,-,vd,rfl,hd⟩:=ha
 obtain ⟨-,-,vd',rfl,hd'⟩:=hb
 obtain ⟨c,s,l⟩:=a
 obtain ⟨c',s',l'⟩:=b
 dsimp only at hd hd' ⊢
 have B1:=ntc_box w (.int .i64 c) (.int .i64 s) vd
 have B2:=ntc_box (w.alloc (.cells #[.int .i64 c,.int .i64 s,vd] 34)) (.int .i64 c') (.int .i64 s') vd'
 have BB:=hid (B1.trans (B2.mono B1.size))
 obtain ⟨a0,a1,a2⟩:=three_cells w (.int .i64 c) (.int .i64 s) vd 34
 replace a0:=keepsT B2 a0
 replace a1:=keepsT B2 a1
 replace a2:=keepsT B2 a2
 obtain ⟨b0,b1,b2⟩:=three_cells (w.alloc (.cells #[.int .i64 c,.int .i64 s,vd] 34)) (.int .i64 c') (.int .i64 s') vd' 34
 have e:(w.alloc (.cells #[.int .i64 c,.int .i64 s,vd] 34)).heap.size=w.heap.size+1:=by simp
 rw [e] at b0 b1 b2
 have CE:=hid (equal8_any vd vd' l l' _ (hd.keep BB.out) (hd'.keep BB.out))
 clear hd hd' B1 B2 e
 unfold sameN
 dsimp only
 generalize decide (l=l')=r at CE ⊢
 by_cases h1:c=c'
 case neg =>
  have y:(c == c')=false:=by simp [h1]
  rw [decide_eq_false h1]
  go_enter Tryz.func40,Tryz.ntmps40
  go_wp2
  go_ret
  exact ⟨rfl,BB.out⟩
 subst h1
 by_cases h2:s=s'
 case neg =>
  have y:(s == s')=false:=by simp [h2]
  rw [decide_eq_false h2,decide_eq_true rfl]
  go_enter Tryz.func40,Tryz.ntmps40
  go_wp2
  go_ret
  exact ⟨rfl,BB.out⟩
 subst h2
 rw [decide_eq_true rfl,decide_eq_true rfl]
 simp only [Bool.true_and]
 go_enter Tryz.func40,Tryz.ntmps40
 go_wp2_with (go_at_call 77;refine (CE.out).mono ?_;rintro e x ⟨rfl,rfl⟩)
 go_ret
 exact ⟨rfl,BB.out⟩
theorem note_zero (W:World):Note W (.agg #[.int .i64 0,.int .i64 0,.slice none 0 0]) noN:=⟨by decide,by decide,_,rfl,U8s.nil W⟩
end Ntc
namespace Frm
open Go.RowKit Mem Oct
open Go.Lib (hid)
def WrapF (EB:List Nat) (er:Int) (w:World) (e:Ending) (w':World):Prop:=∃ A c,e=.returned (.tuple #[.slice A EB.length c,.int .i64 er])∧U8s w' (.slice A EB.length c) EB∧Below w.heap.size w w'
theorem rwrap_any (k:Int) (v:Value) (l:List Nat) (w:World) (hv:U8s w v l) (hl:l.length≤100000):Calls Tryz.prog 16 #[.int .i64 k,v] w (Gives8 (wrapB k l) w):=by
 obtain ⟨A0,c,rfl,hc,hc2⟩:=hv.form
 obtain ⟨i0,E0⟩:=elem8
 have HV:=hid hv
 have hbl:Below w.heap.size w (w.alloc (.cells #[] 5)):=(Below.refl _ w).alloc (Nat.le_refl _) _
 have HB0:=hid hbl
 have HO0:=hid (show (w.alloc (.cells #[] 5)).ownsRow w.heap.size 5 1 (.slice (some ⟨w.heap.size,0,none⟩) 0 0) 0 (cells8 []) from own_blk (Nat.le_refl _) (heap_alloc_new _ _))
 clear hv hbl
 have HE:=hid (show (wrapB k l).length=19+l.length from wrapB_len k l)
 have HW:=hid (show wrapB k l=List.replicate 16 255 ++ big (19+l.length) 2 ++ [lo8 k] ++ l from rfl)
 generalize wrapB k l=R at HE HW ⊢
 go_enter Tryz.func16,Tryz.ntmps16
 go_wp2
 go_loopw [5,6] (fun v5 v6 wx=>∃ (i:Nat) (A:Option Addr) (cp:Nat),i≤16∧v6=.int .i64 i∧v5=.slice A i cp∧Hid (wx.ownsRow w.heap.size 5 1 (.slice A i cp) i (cells8 (List.replicate i 255)))∧Hid (Below w.heap.size w wx)) (fun _ v6 _=>16 - (intOf v6).toNat)
 case atStart=>exact ⟨0,_,0,Nat.zero_le _,rfl,rfl,HO0,HB0⟩
 case round =>
  obtain ⟨i,A,cp,hi,rfl,rfl,HO,HB⟩:=hrel
  by_cases hlt:i<16
  ·have z1:(i:Int)<16:=by omega
   have hal:Below wr.heap.size wr (wr.alloc (.cells #[.int .u8 255] 5)):=(Below.refl _ _).alloc (Nat.le_refl _) _
   have HA:=hid hal
   clear hal
   go_wp2_with (at_builtin;refine wpList_append_row rfl (.tmp 12) (.tmp 13) rfl E0 w.heap.size _ i (cells8 (List.replicate i 255)) rfl (own_keep HO.out HA.out) _ 1 [.int .u8 255] rfl (Row.one _ _ _) (fun u hu=>by rw [List.mem_singleton.1 hu];rfl) (by unfold maxLen;omega) (by omega) (Nat.le_trans HB.out.size HA.out.size) (i+1) rfl ?_;intro A1 c1 w1 hown hg hat hb;have HO1:=hid hown;have HB1:=hid ((HB.out.trans (HA.out.mono HB.out.size)).trans hb);clear hown hg hat hb)
   go_roundw
   case rel=>exact ⟨i+1,A1,c1,hlt,by go_num,rfl,hid (by have h:=HO1.out;rw [List.replicate_succ',cells8_append];exact h),HB1⟩
   case measure=>simp [intOf];omega
  ·obtain rfl:i=16:=by omega
   have hn:((19+l.length:Nat):Int)=19+(l.length:Int):=by omega
   have C:=hid (fun W=>big_any (19+l.length) 2 W (by omega) (by omega))
   rw [hn] at C
   have wk:=wrap_lo8 k
   have wn:IntKind.u64.wrap (19+(l.length:Int))=19+(l.length:Int):=by rw [← hn];exact IntWalk.u64_in _ (by omega)
   clear hn
   have HS:=hid (big_small (19+l.length) 2)
   have HBL:=hid (big_len (19+l.length) 2)
   generalize big (19+l.length) 2=G at C HS HW HBL
   go_wp2_with (first
    | (go_at_call 42;refine (C.out _).mono ?_;rintro e x ⟨A1,c1,rfl,ho,hb⟩;have G1:=hid (U8s.of_own ho HS.out);have HO1:=hid (own_keep HO.out hb);have HB1:=hid (HB.out.trans (hb.mono HB.out.size));clear ho hb HO)
    | (have h:=G1.out;at_builtin;refine wpList_append_row rfl (.tmp 15) (.tmp 20) rfl E0 w.heap.size _ 16 (cells8 (List.replicate 16 255)) rfl HO1.out _ G.length (cells8 G) rfl h.1 (ones8 _) (by rw [HBL.out];unfold maxLen;omega) (by rw [HBL.out];omega) HB1.out.size 18 (by rw [HBL.out]) ?_;intro A2 c2 x2 hown hg hat hb;have hb2:=HB1.out.trans hb;have hal:Below x2.heap.size x2 (x2.alloc (.cells #[.int .u8 (lo8 k)] 5)):=(Below.refl _ _).alloc (Nat.le_refl _) _;have HO2:=hid (own_keep hown hal);have HB2:=hid (hb2.trans (hal.mono hb2.size));clear hown hg hat hb hb2 hal h G1)
    | (have h:=HO2.out;at_builtin;refine wpList_append_row rfl (.tmp 21) (.tmp 24) rfl E0 w.heap.size _ 18 _ rfl h _ 1 [.int .u8 (lo8 k)] rfl (Row.one _ _ _) (fun u hu=>by rw [List.mem_singleton.1 hu];rfl) (by unfold maxLen;omega) (by omega) HB2.out.size 19 rfl ?_;intro A3 c3 x3 hown hg hat hb;have HB3:=hid (HB2.out.trans hb);have HO3:=hid hown;have V3:=hid (HV.out.keep HB3.out);clear hown hg hat hb h HO2)
    | (have h:=HO3.out;at_builtin;refine wpList_append_row rfl (.tmp 25) (.tmp 26) rfl E0 w.heap.size _ 19 _ rfl h _ l.length (cells8 l) rfl V3.out.1 (ones8 _) (by unfold maxLen;omega) (by omega) HB3.out.size R.length HE.out.symm ?_;intro A4 c4 x4 hown hg hat hb;have HB4:=hid (HB3.out.trans hb);have HO4:=hid hown;clear hown hg hat hb h HO3))
   go_ret
   refine ⟨A4,c4,rfl,?_,HB4.out⟩
   have h:=HO4.out
   rw [HW.out,cells8_append,cells8_append,cells8_append]
   rw [HW.out] at h
   exact h
end Frm
namespace Ntc
open Go.RowKit Mem Oct Att
open Go.Lib (hid)
def rd2 (b:List Nat):Rd:=((Rd.mk b false).go 1).go 1
def readN (b:List Nat):No:=⟨((Rd.mk b false).num 1:Nat),(((Rd.mk b false).go 1).num 1:Nat),got (rd2 b).l (rd2 b).b (rd2 b).l.length⟩
def badN (b:List Nat):Bool:=fails (rd2 b).l (rd2 b).b (rd2 b).l.length
def okN (b:List Nat):Bool:=!badN b && goodN (readN b)
def outN (b:List Nat):No:=if okN b then readN b else noN
theorem ok_nil:okN []=false:=by decide
theorem ok_one (a:Nat):okN [a]=false:=by
 unfold okN badN rd2
 rw [(head_go a []).1]
 have h:fails ((Rd.mk [] false).go 1).l ((Rd.mk [] false).go 1).b (((Rd.mk [] false).go 1).l.length:Nat)=true:=by decide
 rw [h];rfl
theorem read_two (a c:Nat) (d:List Nat):readN (a :: c :: d)=⟨(a:Nat),(c:Nat),d⟩∧badN (a :: c :: d)=false:=by
 have h1:=head_go a (c :: d)
 have h2:=head_go c d
 have h3:=fit_go (l:=d) (n:=d.length) (Nat.le_refl _)
 have e:rd2 (a :: c :: d)=⟨d,false⟩:=by unfold rd2;rw [h1.1,h2.1]
 constructor
 ·unfold readN
  rw [e,h1.2,h1.1,h2.2]
  dsimp only
  rw [h3.2,List.take_length]
 ·unfold badN
  rw [e]
  exact congrArg Rd.b h3.1
theorem ok_two (a c:Nat) (d:List Nat):okN (a :: c :: d)=goodN ⟨(a:Nat),(c:Nat),d⟩:=by
 unfold okN
 rw [(read_two a c d).1,(read_two a c d).2];rfl
structure DeSt (w:World) (base n:Nat) (P:Value) (l:List Nat) (b:Bool) (F:Nat→Prop) (W:World):Prop where
 box:Box3 W w.heap.size 34 (.int .i64 0) (.int .i64 0) (.slice none 0 0)
 low:Below w.heap.size w W
 rd:R W base n P l b F
 lo:w.heap.size<base
 fr:From W P base
theorem DeSt.go {w W W2:World} {base n:Nat} {P:Value} {l l2:List Nat} {b b2:Bool} {F:Nat→Prop} (h:DeSt w base n P l b F W) (hR:R W2 base n P l2 b2 F) (ho:Only F W W2) (hk:FromK P W W2):DeSt w base n P l2 b2 F W2 :=
  ⟨h.box.below (fun k hk=>ho.block k (by rw [hk];exact h.box.lt) (fun hf=>by have:=(h.rd.low k hf).1;have:=h.lo;omega)),
   h.low.trans (ho.below (fun k hk=>by have:=(h.rd.low k hk).1;have:=h.lo;omega) h.low.size),hR,h.lo,hk _ h.fr⟩
def NoteA (n:Nat) (W:World) (v:Value) (x:No):Prop:=Note W v x∧∃ x0 x1 d,v=.agg #[x0,x1,d]∧∀ g,d.ownBlock=some g→n≤g
theorem u8_hold {n:Nat} {W W':World} {v:Value} {l:List Nat} (h:U8s W v l) (hA:∀ g,v.ownBlock=some g→n≤g) (hk:∀ k,k<W.heap.size→n≤k→W'.heap[k]?=W.heap[k]?) (hs:W.heap.size≤W'.heap.size):U8s W' v l:=by
 obtain ⟨⟨hl,A,c,rfl,hn,hc,hr⟩,hb⟩:=h
 refine ⟨⟨hl,A,c,rfl,hn,hc,fun h0=>?_⟩,hb⟩
 obtain ⟨b,off,rfl,hlt,hcell⟩:=hr h0
 exact ⟨b,off,rfl,Nat.lt_of_lt_of_le hlt hs,fun i x hx=>(World.cell?_of_block (hk b hlt (hA b rfl))).trans (hcell i x hx)⟩
theorem NoteA.off {n:Nat} {W W':World} {v:Value} {x:No} (h:NoteA n W v x) (hk:∀ k,k<W.heap.size→n≤k→W'.heap[k]?=W.heap[k]?) (hs:W.heap.size≤W'.heap.size):Note W' v x:=by
 obtain ⟨⟨q1,q2,vd,rfl,hd⟩,x0,x1,d,e,hA⟩:=h
 injection e with e
 obtain ⟨rfl,rfl,rfl⟩:_=x0∧_=x1∧vd=d:=by simpa using e
 exact ⟨q1,q2,vd,rfl,u8_hold hd hA hk hs⟩
def DecF2 (b:List Nat) (w:World) (e:Ending) (w':World):Prop:=∃ x,e=.returned (.tuple #[x,.bool (okN b)])∧NoteA w.heap.size w' x (outN b)∧Below w.heap.size w w'
theorem nat_wf {n:Nat} (h:n<256):(Lit.int .i64 (n:Nat)).wf=true:=by simp [Lit.wf,IntKind.min,IntKind.max,IntKind.signed,IntKind.bits];omega
theorem decode_from (v : Value) (b : List Nat) (w : World) (hv : U8s w v b) (hl : b.length ≤ 1000000) : Calls Tryz.prog 48 #[v] w (DecF2 b w) := by
  have HX:=hid (Box3.new w 34 (.int .i64 0) (.int .i64 0) (.slice none 0 0))
  have BB:=hid (ntc_box w (.int .i64 0) (.int .i64 0) (.slice none 0 0))
  have HS:=hid (show w.heap.size<(w.alloc (.cells #[.int .i64 0,.int .i64 0,.slice none 0 0] 34)).heap.size by simp)
  have CN:=hid (new_from v b _ (hv.keep BB.out) hl)
  obtain ⟨c0,c1,c2⟩:=HX.out.cells
  have ff:=HX.out.free
  have hs1:Small ((Rd.mk b false).go 1).l:=Rd.small (x:=⟨b,false⟩) hv.2 1
  have hn1:(Rd.mk b false).num 1<256:=num_lt (x:=⟨b,false⟩) hv.2 1
  have hn2:((Rd.mk b false).go 1).num 1<256:=num_lt (x:=(Rd.mk b false).go 1) hs1 1
  have hll : (rd2 b).l.length ≤ 1000000 := by
    unfold rd2 Rd.go rest
    dsimp only
    split
    · simp
    · split <;> simp <;> omega
  have CU:=hid (fun P base n F W (h:R W base n P b false F)=>show Calls Tryz.prog 82 #[P] W (fun e w'=>e=.returned (.int .i64 ((Rd.mk b false).num 1:Nat))∧R w' base n P ((Rd.mk b false).go 1).l ((Rd.mk b false).go 1).b F∧Only F W w'∧FromK P W w') from (u8_from P base n b false F W hv.2 h).mono fun _ _ ⟨⟨h1,h2,h3⟩,h4⟩=>⟨h1,h2,h3,h4⟩)
  have CV:=hid (fun P base n F W (h:R W base n P ((Rd.mk b false).go 1).l ((Rd.mk b false).go 1).b F)=>show Calls Tryz.prog 82 #[P] W (fun e w'=>e=.returned (.int .i64 (((Rd.mk b false).go 1).num 1:Nat))∧R w' base n P (rd2 b).l (rd2 b).b F∧Only F W w'∧FromK P W w') from (u8_from P base n _ _ F W hs1 h).mono fun _ _ ⟨⟨h1,h2,h3⟩,h4⟩=>⟨h1,h2,h3,h4⟩)
  have CR:=hid (fun P base n F W (h:R W base n P (rd2 b).l (rd2 b).b F)=>show Calls Tryz.prog 93 #[P] W (fun e w'=>∃ A c,e=.returned (.slice A (readN b).data.length c)∧U8s w' (.slice A (readN b).data.length c) (readN b).data∧R w' base n P (rest (rd2 b).l (rd2 b).b (rd2 b).l.length) (badN b) F∧Only F W w'∧FromK P W w'∧(∀ m,From W P m→∀ g,(Value.slice A (readN b).data.length c).ownBlock=some g→m≤g)) from (rest_from P base n _ _ F W hll h).mono fun _ _ ⟨A,c,h1,⟨h2,h3,h4⟩,h5⟩=>⟨A,c,h1,h2,h3,h4,fun m hm=>(h5 m hm).2,fun m hm=>(h5 m hm).1⟩)
  unfold readN at CR
  dsimp only at CR
  unfold DecF2 outN okN readN
  clear hv hl hs1 hll
  generalize badN b=B at CR ⊢
  generalize got (rd2 b).l (rd2 b).b (rd2 b).l.length=D at CR ⊢
  generalize rest (rd2 b).l (rd2 b).b (rd2 b).l.length=D2 at CR
  generalize rd2 b=y at CV CR
  generalize ((Rd.mk b false).go 1).num 1=V1 at CV hn2 ⊢
  generalize (Rd.mk b false).num 1=V0 at CU hn1 ⊢
  generalize (Rd.mk b false).go 1=z at CU CV
  have wf0:=hid (nat_wf hn1)
  have wf1:=hid (nat_wf hn2)
  have CB:=hid (fun P base n l F W (h:R W base n P l B F)=>bad_any P base n l B F W h)
  have CG:=hid (fun A c W (h:U8s W (.slice A D.length c) D)=>good_any (.agg #[.int .i64 (V0:Nat),.int .i64 (V1:Nat),.slice A D.length c]) ⟨(V0:Nat),(V1:Nat),D⟩ W ⟨wf0.out,wf1.out,_,rfl,h⟩)
  clear hn1 hn2
  generalize goodN ⟨(V0:Nat),(V1:Nat),D⟩=G at CG ⊢
  rcases B with _ | _ <;> rcases G with _ | _
  all_goals
    go_enter Tryz.func48,Tryz.ntmps48
    go_wp2_with (first
      | (have k:=T3.out;go_at_call 29;refine (CG.out _ _ _ U4.out).mono ?_;rintro e t ⟨rfl,hb⟩;have U5:=hid (U4.out.keep hb);have X5:=hid (And.intro (X4.out.1.keep hb) (And.intro (X4.out.2.1.trans (hb.mono X4.out.2.1.size)) (X4.out.2.2.keep hb)));clear U4 X4 hb p0 p1 p2 c0 c1 c2 ff;obtain ⟨c0,c1,c2⟩:=X5.out.1.cells;obtain ⟨p0,p1,p2⟩:=X5.out.2.2.cells;have ff:=X5.out.1.free)
      | (have h:=S3.out;go_at_call 85;refine (CB.out _ _ _ _ _ _ (h.rd.below (ntc_box _ _ _ _))).mono ?_;rintro e s ⟨rfl,hb⟩;have T3:=hid True.intro;have U4:=hid ((U3.out.keep (ntc_box _ _ _ _)).keep hb);have X4:=hid (And.intro ((h.box.keep (ntc_box _ _ _ _)).keep hb) (And.intro ((h.low.trans ((ntc_box _ _ _ _).mono h.low.size)).trans (hb.mono (h.low.trans ((ntc_box _ _ _ _).mono h.low.size)).size)) ((Box3.new _ _ _ _ _).keep hb)));clear S3 U3 h hb c0 c1 c2 ff;obtain ⟨c0,c1,c2⟩:=X4.out.1.cells;obtain ⟨p0,p1,p2⟩:=X4.out.2.2.cells;have ff:=X4.out.1.free)
      | (have h:=S2.out;go_at_call 93;refine (CR.out _ _ _ _ _ h.rd).mono ?_;rintro e s ⟨A,c,rfl,hU,hR,ho,hk,hA⟩;have S3:=hid (h.go hR ho hk);have U3:=hid hU;have A3:=hid (fun g hg=>Nat.le_trans (Nat.le_of_lt h.lo) (hA _ h.fr g hg));clear h hU hR ho hk hA S2 c0 c1 c2 ff;obtain ⟨c0,c1,c2⟩:=S3.out.box.cells;have ff:=S3.out.box.free)
      | (have h:=S1.out;go_at_call 82;refine (CV.out _ _ _ _ _ h.rd).mono ?_;rintro e s ⟨rfl,hR,ho,hk⟩;have S2:=hid (h.go hR ho hk);clear h hR ho hk S1 c0 c1 c2 ff;obtain ⟨c0,c1,c2⟩:=S2.out.box.cells;have ff:=S2.out.box.free)
      | (have h:=S0.out;go_at_call 82;refine (CU.out _ _ _ _ _ h.rd).mono ?_;rintro e s ⟨rfl,hR,ho,hk⟩;have S1:=hid (h.go hR ho hk);clear h hR ho hk S0 c0 c1 c2 ff;obtain ⟨c0,c1,c2⟩:=S1.out.box.cells;have ff:=S1.out.box.free)
      | (go_at_call 81;refine CN.out.mono ?_;rintro e s ⟨k,rfl,⟨hR,hb⟩,hfr⟩;have S0:=hid (DeSt.mk (HX.out.keep hb) (BB.out.trans (hb.mono BB.out.size)) hR HS.out hfr);clear hR hb hfr c0 c1 c2 ff;obtain ⟨c0,c1,c2⟩:=S0.out.box.cells;have ff:=S0.out.box.free))
    (try simp only [Exit.inBlock,Exit.then])
    try have X5:=X4
    first
      | (have r0 := (X5.out.1.set0 (.int .i64 0)).cells.1
         have r1:=((X5.out.1.set0 (.int .i64 0)).set1 (.int .i64 0)).cells.2.1
         have r2:=(X5.out.1.laid (.int .i64 0) (.int .i64 0) (.slice none 0 0)).cells.2.2
         unfold three at r2
         refine bodyPost_ret (v:=.tuple #[.agg #[.int .i64 0,.int .i64 0,.slice none 0 0],.bool false]) (by simp [results,Tryz.results48,go_sem,r0,r1,r2]) rfl ?_
         exact ⟨_,rfl,⟨note_zero _,_,_,_,rfl,fun g hg=>by cases hg⟩,three_low X5.out.2.1 _ (Nat.le_refl _) _ _ _⟩)
      | (have r0 := (X5.out.1.set0 (.int .i64 (V0 : Nat))).cells.1
         have r1:=((X5.out.1.set0 (.int .i64 (V0:Nat))).set1 (.int .i64 (V1:Nat))).cells.2.1
         have r2:=(X5.out.1.laid (.int .i64 (V0:Nat)) (.int .i64 (V1:Nat)) (.slice A D.length c)).cells.2.2
         unfold three at r2
         refine bodyPost_ret (v:=.tuple #[.agg #[.int .i64 (V0:Nat),.int .i64 (V1:Nat),.slice A D.length c],.bool true]) (by simp [results,Tryz.results48,go_sem,r0,r1,r2]) rfl ?_
         have ho:=three_off t w.heap.size (.int .i64 (V0:Nat)) (.int .i64 (V1:Nat)) (.slice A D.length c)
         exact ⟨_,rfl,⟨⟨wf0.out,wf1.out,_,rfl,u8_apart U5.out (X5.out.1.no8 (no8_i _) (no8_i _) (no8_s _ _ _)) ho.1 ho.2⟩,_,_,_,rfl,A3.out⟩,three_low X5.out.2.1 _ (Nat.le_refl _) _ _ _⟩)
end Ntc
namespace Frm
open Go.RowKit Mem Oct Att
open Go.Lib (hid)
theorem valid_any (k:Int) (w:World):Calls Tryz.prog 58 #[.int .i64 k] w (Tells (.bool (decide (1≤k∧k≤4))) w):=by
 have HB:=hid (Below.refl w.heap.size w)
 by_cases h:1≤k
 ·rw [show decide (1≤k∧k≤4)=decide (k≤4) from decide_eq_decide.2 (by omega)]
  have z:k ≥ 1:=h
  go_enter Tryz.func58,Tryz.ntmps58
  go_wp2
  go_ret
  exact ⟨rfl,HB.out⟩
 ·rw [decide_eq_false (show ¬ (1≤k∧k≤4) by omega)]
  have z:k<1:=by omega
  go_enter Tryz.func58,Tryz.ntmps58
  go_wp2
  go_ret
  exact ⟨rfl,HB.out⟩
theorem fits_any (T N:Nat) (w:World) (h1:1≤T) (h4:T≤4) (hN:19≤N):Calls Tryz.prog 129 #[.int .i64 T,.int .i64 N] w (Tells (.bool (!decide (N<leastH T∨(T=4∧19<N)))) w):=by
 have HB:=hid (Below.refl w.heap.size w)
 rcases (show T=1∨T=2∨T=3∨T=4 by omega) with rfl | rfl | rfl | rfl
 ·rw [show (!decide (N<leastH 1∨(1=4∧19<N)))=decide ((N:Int) ≥ 29) from by rw [← decide_not];exact decide_eq_decide.2 (by have:leastH 1=29:=rfl;omega)]
  go_enter Tryz.func129,Tryz.ntmps129
  go_wp2
  go_ret
  exact ⟨rfl,HB.out⟩
 ·rw [show (!decide (N<leastH 2∨(2=4∧19<N)))=decide ((N:Int) ≥ 23) from by rw [← decide_not];exact decide_eq_decide.2 (by have:leastH 2=23:=rfl;omega)]
  go_enter Tryz.func129,Tryz.ntmps129
  go_wp2
  go_ret
  exact ⟨rfl,HB.out⟩
 ·rw [show (!decide (N<leastH 3∨(3=4∧19<N)))=decide ((N:Int) ≥ 21) from by rw [← decide_not];exact decide_eq_decide.2 (by have:leastH 3=21:=rfl;omega)]
  go_enter Tryz.func129,Tryz.ntmps129
  go_wp2
  go_ret
  exact ⟨rfl,HB.out⟩
 ·rw [show (!decide (N<leastH 4∨(4=4∧19<N)))=decide ((N:Int)=19) from by rw [← decide_not];exact decide_eq_decide.2 (by have:leastH 4=19:=rfl;omega)]
  go_enter Tryz.func129,Tryz.ntmps129
  go_wp2
  go_ret
  exact ⟨rfl,HB.out⟩
theorem fault_any (s:Int) (A:Option Addr) (k c:Nat) (w:World):Calls Tryz.prog 128 #[.int .i64 s,.slice A k c] w (Tells (.agg #[.int .i64 1,.int .i64 s,.slice A k c]) w):=by
 have BB:=hid (box_low w (.int .i64 1) (.int .i64 s) (.slice A k c))
 go_enter Tryz.func128,Tryz.ntmps128
 go_wp2
 refine bodyPost_ret (v:=.agg #[.int .i64 1,.int .i64 s,.slice A k c]) (by simp [results,Tryz.results128,go_sem]) rfl ?_
 exact ⟨rfl,BB.out⟩
end Frm
namespace Opn
open Oct Att
def thenO (r:Option Op) (f:Op→Nat ⊕ Op):Nat ⊕ Op:=match r with
 | some o=>f o
 | none=>.inl 0
theorem pars_two (o:Op) (t m:Nat) (r:List Nat):pars o (t :: m :: r)=if m≤r.length then (if t=2 then thenO (caps o (r.take m)) (fun o2=>pars o2 (r.drop m)) else .inl 4) else .inl 0:=by
 rw [pars_step];rfl
end Opn
namespace Opn
open Go.RowKit Mem Oct Att
theorem on_cases (l:List Nat):l=[]∨((onR ⟨l,false⟩).b=true∧0<l.length∧(∀ o,pars o l=.inl 0)∧(∀ o,caps o l=none)) ∨
  ∃ t m r,l=t :: m :: r∧m≤r.length∧onK ⟨l,false⟩=t∧onV ⟨l,false⟩=⟨r.take m,false⟩∧onR ⟨l,false⟩=⟨r.drop m,false⟩:=by
 match l with
 | []=>exact .inl rfl
 | [t] =>
  refine .inr (.inl ⟨?_,by simp,fun o=>pars_one o t,fun o=>caps_one o t⟩)
  unfold onR on2
  rw [(head_go t []).1]
  exact go_bad (go_nil 1 (by omega)) _
 | t :: m :: r =>
  have e1:=(head_go t (m :: r)).1
  have e2:on2 ⟨t :: m :: r,false⟩=⟨r,false⟩:=by unfold on2;rw [e1];exact (head_go m r).1
  have eK:onK ⟨t :: m :: r,false⟩=t:=(head_go t (m :: r)).2
  have eN:onN ⟨t :: m :: r,false⟩=m:=by unfold onN;rw [e1];exact (head_go m r).2
  by_cases h:m≤r.length
  ·refine .inr (.inr ⟨t,m,r,rfl,h,eK,?_,?_⟩)
   ·unfold onV
    rw [e2,eN]
    obtain ⟨g1,g2⟩:=fit_go h
    have hf:fails r false (m:Nat)=false:=by
     have:=congrArg Rd.b g1
     exact this
    dsimp only
    rw [g2,hf]
   ·unfold onR
    rw [e2,eN]
    exact (fit_go h).1
  ·refine .inr (.inl ⟨?_,by simp,fun o=>?_,fun o=>?_⟩)
   ·unfold onR
    rw [e2,eN]
    exact (go_short (by omega)).1
   ·rw [pars_two,if_neg h]
   ·rw [caps_step,if_neg h]
theorem four_go (D:List Nat):(D.length=4∧(Rd.mk D false).num 4=val D∧((Rd.mk D false).go 4).l.length=0)∨(D.length≠4∧((Rd.mk D false).num 4=0∨0<((Rd.mk D false).go 4).l.length)):=by
 by_cases h:4≤D.length
 ·obtain ⟨g1,g2⟩:=fit_go (l:=D) (n:=4) h
  have e2:(Rd.mk D false).num 4=val (D.take 4):=congrArg val g2
  have e1:((Rd.mk D false).go 4).l=D.drop 4:=congrArg Rd.l g1
  by_cases h4:D.length=4
  ·refine .inl ⟨h4,by rw [e2,List.take_of_length_le (by omega)],?_⟩
   rw [e1,List.length_drop];omega
  ·refine .inr ⟨h4,.inr ?_⟩
   rw [e1,List.length_drop];omega
 ·refine .inr ⟨by omega,.inl ?_⟩
  have hf:fails D false 4=true:=by simp [fails];omega
  show val (got D false 4)=0
  unfold got
  rw [hf,if_pos rfl];rfl
theorem R_apart {W W':World} {base n:Nat} {v:Value} {l:List Nat} {bad:Bool} {F:Nat→Prop} {B:Nat} (h:R W base n v l bad F) (hB:∀ i k,W.cell? ⟨B,i,none⟩≠some (.int .u8 k)) (hne:¬ F B) (hk:∀ k,k≠B→W'.heap[k]?=W.heap[k]?) (hs:W.heap.size≤W'.heap.size):R W' base n v l bad F:=by
 rcases h with h | ⟨b,s,h1,h2,h3,h4,h5,h6,h7,h8,rfl⟩
 ·exact .inl h
 ·exact .inr ⟨b,s,h1,h2,h3,Nat.le_trans h4 hs,(hk b (fun e=>hne e.symm)).trans h5,u8_apart h6 hB hk hs,h7,h8,rfl⟩
def rlen (W:World) (b:Nat):Nat:=match W.cell? ⟨b,0,none⟩ with
 | some (.slice _ n _)=>n
 | _=>0
theorem R_rlen {W:World} {base n b:Nat} {l:List Nat} {bad:Bool} {F:Nat→Prop} (h:R W base n (.pointer (some ⟨b,0,none⟩)) l bad F):rlen W b=l.length:=by
 rcases h with ⟨h,_⟩ | ⟨b',s,h1,h2,h3,h4,h5,h6,h7⟩
 ·cases h
 ·injection h1 with h1
  injection h1 with h1
  injection h1 with h1
  subst h1
  obtain ⟨A,c,rfl,-,-⟩:=h6.form
  unfold rlen
  rw [(cell0 h5).1]
theorem R_lt {W:World} {base n b:Nat} {l:List Nat} {bad:Bool} {F:Nat→Prop} (h:R W base n (.pointer (some ⟨b,0,none⟩)) l bad F):n≤W.heap.size:=by
 rcases h with ⟨h,_⟩ | ⟨b',s,h1,h2,h3,h4,h5⟩
 ·cases h
 ·exact h4
structure PrSt (w0:World) (base n br B:Nat) (x:Rd) (o:Op) (W:World):Prop where
 rd:R W base n (.pointer (some ⟨br,0,none⟩)) x.l x.b (fun k=>k=br)
 bo:Box4 W B 24 (.int .u32 o.an) (.int .i64 o.hold) (.int .u32 o.ri) (.bool o.four)
 rs:Box3 W w0.heap.size 34 (.int .i64 0) (.int .i64 0) (.slice none 0 0)
 on:Only (fun k=>k=br∨k=B) w0 W
 ge:n≤w0.heap.size∧B<w0.heap.size∧B≠br
section
variable {w0 W W2:World} {base n br B b2 n2:Nat} {x y z:Rd} {o:Op} {G:Nat→Prop}
theorem PrSt.brl (h:PrSt w0 base n br B x o W):br<w0.heap.size:=Nat.lt_of_lt_of_le (h.rd.low br rfl).2 h.ge.1
theorem PrSt.below (h:PrSt w0 base n br B x o W) (hb:Below W.heap.size W W2):PrSt w0 base n br B x o W2 :=
 ⟨h.rd.below hb,h.bo.keep hb,h.rs.keep hb,h.on.trans (Only.of hb),h.ge⟩
theorem PrSt.read (h:PrSt w0 base n br B x o W) (hr:R W2 base n (.pointer (some ⟨br,0,none⟩)) y.l y.b (fun k=>k=br)) (ho:Only (fun k=>k=br) W W2):PrSt w0 base n br B y o W2 :=
 ⟨hr,⟨(ho.block _ h.bo.lt h.ge.2.2).trans h.bo.blk⟩,⟨(ho.block _ h.rs.lt (fun e=>by have:=h.brl;omega)).trans h.rs.blk⟩,h.on.trans (ho.more fun k hk=>.inl hk),h.ge⟩
theorem PrSt.far (h:PrSt w0 base n br B x o W) (ho:Only G W W2) (hG:∀ k,G k→w0.heap.size<k):PrSt w0 base n br B x o W2 :=
 ⟨h.rd.far ho (fun k hk=>by have:=hG k hk;have:=h.ge.1;omega),⟨(ho.block _ h.bo.lt (fun hg=>by have:=hG _ hg;have:=h.ge.2.1;omega)).trans h.bo.blk⟩,⟨(ho.block _ h.rs.lt (fun hg=>by have:=hG _ hg;omega)).trans h.rs.blk⟩,
  ⟨ho.os.trans h.on.os,ho.tape.trans h.on.tape,ho.output.trans h.on.output,Nat.le_trans h.on.size ho.size,fun k hk hf=>(ho.block k (Nat.lt_of_lt_of_le hk h.on.size) (fun hg=>by have:=hG k hg;omega)).trans (h.on.block k hk hf)⟩,h.ge⟩
theorem PrSt.no8 (h:PrSt w0 base n br B x o W):∀ i k,W.cell? ⟨B,i,none⟩≠some (.int .u8 k):=h.bo.no8 (no8_u _) (no8_i _) (no8_u _) (no8_b _)
theorem set_off (W:World) (B i:Nat) (u:Value):(∀ k,k≠B→(W.setCell ⟨B,i,none⟩ u).heap[k]?=W.heap[k]?)∧W.heap.size≤(W.setCell ⟨B,i,none⟩ u).heap.size :=
 ⟨fun k hk=>Go.RowKit.Below.heap_setCell _ _ _ _ hk,by simp⟩
theorem PrSt.set3 (h:PrSt w0 base n br B x o W):PrSt w0 base n br B x ⟨o.an,o.hold,o.ri,true⟩ (W.setCell ⟨B,3,none⟩ (.bool true)) :=
 ⟨R_apart h.rd h.no8 h.ge.2.2 (set_off W B 3 _).1 (set_off W B 3 _).2,h.bo.set3 _,h.rs.far (by have:=h.ge.2.1;omega) _,h.on.set (.inr rfl) _,h.ge⟩
theorem PrSt.set0 (h:PrSt w0 base n br B x o W) (a:Nat):PrSt w0 base n br B x ⟨a,o.hold,o.ri,o.four⟩ (W.setCell ⟨B,0,none⟩ (.int .u32 a)) :=
 ⟨R_apart h.rd h.no8 h.ge.2.2 (set_off W B 0 _).1 (set_off W B 0 _).2,h.bo.set0 _,h.rs.far (by have:=h.ge.2.1;omega) _,h.on.set (.inr rfl) _,h.ge⟩
structure InSt (w0:World) (base n br B:Nat) (x:Rd) (b2 n2:Nat) (y:Rd) (o:Op) (W:World):Prop where
 pr:PrSt w0 base n br B x o W
 ls:R W (w0.heap.size+1) n2 (.pointer (some ⟨b2,0,none⟩)) y.l y.b (fun k=>k=b2)
theorem InSt.lt (h:InSt w0 base n br B x b2 n2 y o W):w0.heap.size<b2∧b2<n2∧n2≤W.heap.size :=
 ⟨(h.ls.low b2 rfl).1,(h.ls.low b2 rfl).2,R_lt h.ls⟩
theorem InSt.below (h:InSt w0 base n br B x b2 n2 y o W) (hb:Below W.heap.size W W2):InSt w0 base n br B x b2 n2 y o W2:=⟨h.pr.below hb,h.ls.below hb⟩
theorem InSt.read (h:InSt w0 base n br B x b2 n2 y o W) (hr:R W2 (w0.heap.size+1) n2 (.pointer (some ⟨b2,0,none⟩)) z.l z.b (fun k=>k=b2)) (ho:Only (fun k=>k=b2) W W2):InSt w0 base n br B x b2 n2 z o W2 :=
 ⟨h.pr.far ho (fun k hk=>by subst hk;exact h.lt.1),hr⟩
theorem InSt.start (h:PrSt w0 base n br B x o W) (hr:R W (w0.heap.size+1) n2 (.pointer (some ⟨b2,0,none⟩)) y.l y.b (fun k=>k=b2)):InSt w0 base n br B x b2 n2 y o W:=⟨h,hr⟩
structure VaSt (w0:World) (base n br B:Nat) (x:Rd) (b2 n2:Nat) (y:Rd) (b3 n3:Nat) (z:Rd) (o:Op) (W:World):Prop where
 ins:InSt w0 base n br B x b2 n2 y o W
 vl:R W n2 n3 (.pointer (some ⟨b3,0,none⟩)) z.l z.b (fun k=>k=b3)
theorem VaSt.ge {b3 n3:Nat} (h:VaSt w0 base n br B x b2 n2 y b3 n3 z o W):n2≤b3:=(h.vl.low b3 rfl).1
theorem VaSt.below {b3 n3:Nat} (h:VaSt w0 base n br B x b2 n2 y b3 n3 z o W) (hb:Below W.heap.size W W2):VaSt w0 base n br B x b2 n2 y b3 n3 z o W2:=⟨h.ins.below hb,h.vl.below hb⟩
theorem VaSt.read {b3 n3:Nat} {u:Rd} (h:VaSt w0 base n br B x b2 n2 y b3 n3 z o W) (hr:R W2 n2 n3 (.pointer (some ⟨b3,0,none⟩)) u.l u.b (fun k=>k=b3)) (ho:Only (fun k=>k=b3) W W2):VaSt w0 base n br B x b2 n2 y b3 n3 u o W2 :=
 ⟨⟨h.ins.pr.far ho (fun k hk=>by subst hk;have:=h.ge;have:=h.ins.lt;omega),h.ins.ls.far ho (fun k hk=>by subst hk;exact h.ge)⟩,hr⟩
theorem VaSt.set3 {b3 n3:Nat} (h:VaSt w0 base n br B x b2 n2 y b3 n3 z o W):VaSt w0 base n br B x b2 n2 y b3 n3 z ⟨o.an,o.hold,o.ri,true⟩ (W.setCell ⟨B,3,none⟩ (.bool true)) :=
 ⟨⟨h.ins.pr.set3,R_apart h.ins.ls h.ins.pr.no8 (fun e=>by have:=h.ins.lt;have:=h.ins.pr.ge.2.1;omega) (set_off W B 3 _).1 (set_off W B 3 _).2⟩,R_apart h.vl h.ins.pr.no8 (fun e=>by have:=h.ge;have:=h.ins.lt;have:=h.ins.pr.ge.2.1;omega) (set_off W B 3 _).1 (set_off W B 3 _).2⟩
theorem VaSt.set0 {b3 n3:Nat} (h:VaSt w0 base n br B x b2 n2 y b3 n3 z o W) (a:Nat):VaSt w0 base n br B x b2 n2 y b3 n3 z ⟨a,o.hold,o.ri,o.four⟩ (W.setCell ⟨B,0,none⟩ (.int .u32 a)) :=
 ⟨⟨h.ins.pr.set0 a,R_apart h.ins.ls h.ins.pr.no8 (fun e=>by have:=h.ins.lt;have:=h.ins.pr.ge.2.1;omega) (set_off W B 0 _).1 (set_off W B 0 _).2⟩,R_apart h.vl h.ins.pr.no8 (fun e=>by have:=h.ge;have:=h.ins.lt;have:=h.ins.pr.ge.2.1;omega) (set_off W B 0 _).1 (set_off W B 0 _).2⟩
end
theorem PrSt.start {w:World} {base n br B:Nat} {x:Rd} {o:Op} (hR:R w base n (.pointer (some ⟨br,0,none⟩)) x.l x.b (fun k=>k=br)) (hB:Box4 w B 24 (.int .u32 o.an) (.int .i64 o.hold) (.int .u32 o.ri) (.bool o.four)) (hn:n≤w.heap.size) (hne:B≠br) :
  PrSt w base n br B x o (w.alloc (.cells #[.int .i64 0,.int .i64 0,.slice none 0 0] 34)):=by
 have hb:Below w.heap.size w (w.alloc (.cells #[.int .i64 0,.int .i64 0,.slice none 0 0] 34)):=(Below.refl _ w).alloc (Nat.le_refl _) _
 exact ⟨hR.below hb,hB.keep hb,Box3.new _ _ _ _ _,Only.of hb,hn,hB.lt,hne⟩
def ReadF (B br:Nat) (o:Op) (l:List Nat) (w:World) (e:Ending) (w':World):Prop :=
 Only (fun k=>k=br∨k=B) w w'∧((∃ o2,pars o l=.inr o2∧e=.returned (.agg #[.int .i64 0,.int .i64 0,.slice none 0 0])∧Box4 w' B 24 (.int .u32 o2.an) (.int .i64 o2.hold) (.int .u32 o2.ri) (.bool o2.four)) ∨
  ∃ s:Nat,pars o l=.inl s∧(s=0∨s=4)∧e=.returned (.agg #[.int .i64 2,.int .i64 s,.slice none 0 0]))
theorem PrSt.fin {w W:World} {base n br B:Nat} {x:Rd} {o:Op} (h:PrSt w base n br B x o W) (a b c:Value):Only (fun k=>k=br∨k=B) w (three W w.heap.size a b c)∧Box4 (three W w.heap.size a b c) B 24 (.int .u32 o.an) (.int .i64 o.hold) (.int .u32 o.ri) (.bool o.four):=by
 have ho:=three_off W w.heap.size a b c
 exact ⟨⟨h.on.os,h.on.tape,h.on.output,Nat.le_trans h.on.size ho.2,fun k hk hf=>(ho.1 k (by omega)).trans (h.on.block k hk hf)⟩,⟨(ho.1 B (by have:=h.ge.2.1;omega)).trans h.bo.blk⟩⟩
end Opn
namespace Opn
open Go.RowKit Mem Oct Att Ahead
theorem read_any (base n br B:Nat) (l:List Nat) (o:Op) (w:World) (hs:Small l) (hR:R w base n (.pointer (some ⟨br,0,none⟩)) l false (fun k=>k=br)) (hB:Box4 w B 24 (.int .u32 o.an) (.int .i64 o.hold) (.int .u32 o.ri) (.bool o.four)) (hn:n≤w.heap.size) (hne:B≠br) :
  Calls Tryz.prog 88 #[.pointer (some ⟨br,0,none⟩),.pointer (some ⟨B,0,none⟩)] w (ReadF B br o l w):=by
 have S0:=hid (PrSt.start (x:=⟨l,false⟩) hR hB hn hne)
 have HS:=hid hs
 have CF:=hid fault_any
 have CNX:=hid onext_any
 have CL:=hid left_any
 have CB:=hid bad_any
 have CU:=hid u32_any
 clear hs hR hB hn hne
 go_enter Tryz.func88,Tryz.ntmps88
 go_wp2
 refine wp_scope_ahead 0 (by rfl) ?_
 go_wp2
 go_loopw [5,6,7,8] (fun _ _ _ _ wx=>∃ (lx:List Nat) (o1:Op),Hid (pars o l=pars o1 lx∧Small lx)∧Hid (PrSt w base n br B ⟨lx,false⟩ o1 wx)) (fun _ _ _ _ wx=>rlen wx br)
 case atStart=>exact ⟨l,o,hid ⟨rfl,HS.out⟩,S0⟩
 case round =>
  clear S0
  obtain ⟨lx,o1,HI,S1⟩:=hrel
  have CLX:=hid (CL.out _ _ _ _ _ _ _ S1.out.rd)
  rcases on_cases lx with hl | ⟨hbad,hpos,hp,-⟩ | ⟨t,m,r,hl,hm,eK,eV,eR⟩
  ·have HD:=hid (show pars o l=.inr o1 from by rw [HI.out.1,hl];exact pars_nil o1)
   have zl:((lx.length:Nat):Int)=0:=by rw [hl];rfl
   rw [show (Rd.mk lx false).l.length=lx.length from rfl,zl] at CLX
   clear hl zl
   go_wp2_with (go_at_call 87;(refine (CLX.out).mono ?_;rintro e z ⟨rfl,hb⟩;have S2:=hid (S1.out.below hb);clear hb;obtain ⟨f0,f1,f2⟩:=S2.out.rs.cells;have fr:=S2.out.rs.free))
   rw [jump_ret]
   (try simp only [Exit.inBlock,Exit.then])
   obtain ⟨r0,r1,r2⟩:=(S2.out.rs.laid (.int .i64 0) (.int .i64 0) (.slice none 0 0)).cells
   unfold three at r0 r1 r2
   refine bodyPost_ret (v:=.agg #[.int .i64 0,.int .i64 0,.slice none 0 0]) (by simp [results,Tryz.results88,go_sem,r0,r1,r2]) rfl ?_
   obtain ⟨k1,k2⟩:=S2.out.fin (.int .i64 0) (.int .i64 0) (.slice none 0 0)
   exact ⟨k1,.inl ⟨o1,HD.out,rfl,k2⟩⟩
  ·have HD:=hid (show pars o l=.inl 0 from by rw [HI.out.1];exact hp o1)
   have zl:(0:Int)<((Rd.mk lx false).l.length:Int):=by show (0:Int)<(lx.length:Int);omega
   have CX:=hid (fun W h=>CNX.out (.pointer (some ⟨br,0,none⟩)) base n ⟨lx,false⟩ (fun k=>k=br) W HI.out.2 h)
   obtain ⟨Y,hY⟩:∃ Y,Y=onR ⟨lx,false⟩:=⟨_,rfl⟩
   have HY:=hid hY
   have CBX:=hid (fun W (h:R W base n (.pointer (some ⟨br,0,none⟩)) Y.l true (fun k=>k=br))=>CB.out _ _ _ _ _ _ W h)
   have HYB:=hid (show Y.b=true from by rw [hY];exact hbad)
   generalize (Rd.mk lx false).l.length=L at CLX zl
   clear hbad hpos hp hY
   go_wp2_with (first
    | (go_at_call 87;(refine (CLX.out).mono ?_;rintro e z ⟨rfl,hb⟩;have S2:=hid (S1.out.below hb);clear hb))
    | (have h:=S2.out;go_at_call 131;(refine (CX.out _ h.rd (Nat.le_trans h.ge.1 h.on.size)).mono ?_;rintro e z ⟨b2,rfl,hb2,hV,hR,ho⟩;rw [← HY.out] at hR;have S3:=hid (h.read (y:=Y) hR ho);clear hb2 hV hR ho h S2))
    | (have h:=S3.out;go_at_call 85;(have hr:=h.rd;rw [HYB.out] at hr;refine (CBX.out _ hr).mono ?_;rintro e z ⟨rfl,hb⟩;have S4:=hid (h.below hb);clear hb hr h S3)))
   go_step3
   refine ⟨rfl,?_⟩
   go_wp2_with (have h:=S4.out;go_at_call 86;(refine (CF.out _ _ _ _ _).mono ?_;rintro e z ⟨rfl,hb⟩;have SZ:=hid (h.below hb);clear hb h;obtain ⟨f0,f1,f2⟩:=SZ.out.rs.cells;have fr:=SZ.out.rs.free))
   rw [Exit.noGoto_ret]
   (try simp only [Exit.inBlock,Exit.then])
   obtain ⟨r0,r1,r2⟩:=(SZ.out.rs.laid (.int .i64 2) (.int .i64 0) (.slice none 0 0)).cells
   unfold three at r0 r1 r2
   refine bodyPost_ret (v:=.agg #[.int .i64 2,.int .i64 0,.slice none 0 0]) (by simp [results,Tryz.results88,go_sem,r0,r1,r2]) rfl ?_
   obtain ⟨k1,k2⟩:=SZ.out.fin (.int .i64 2) (.int .i64 0) (.slice none 0 0)
   exact ⟨k1,.inr ⟨0,HD.out,.inl rfl,rfl⟩⟩
  ·have zl:(0:Int)<((Rd.mk lx false).l.length:Int):=by show (0:Int)<(lx.length:Int);rw [hl];simp only [List.length_cons];omega
   have HM:=hid (show rlen wr br=lx.length from R_rlen S1.out.rd)
   obtain ⟨lr,hlr⟩:∃ lr,lr=r.drop m:=⟨_,rfl⟩
   obtain ⟨ll,hll⟩:∃ ll,ll=r.take m:=⟨_,rfl⟩
   have hSr:Small r:=fun x hx=>HI.out.2 x (by rw [hl];simp [hx])
   have HSR:=hid (show Small lr from by rw [hlr];exact hSr.drop m)
   have HSL:=hid (show Small ll from by rw [hll];exact hSr.take m)
   have HLL:=hid (show lr.length<lx.length from by rw [hlr,hl,List.length_drop];simp;omega)
   have HP:=hid (show pars o l=if t=2 then thenO (caps o1 ll) (fun o2=>pars o2 lr) else .inl 4 from by rw [HI.out.1,hl,pars_two,if_pos hm,hll,hlr])
   have CX:=hid (fun W (h:R W base n (.pointer (some ⟨br,0,none⟩)) lx false (fun k=>k=br)) (hn:n≤W.heap.size)=>show Calls Tryz.prog 131 #[.pointer (some ⟨br,0,none⟩)] W (fun e w'=>∃ b,e=.returned (.tuple #[.int .i64 t,.pointer (some ⟨b,0,none⟩)])∧W.heap.size≤b∧R w' W.heap.size w'.heap.size (.pointer (some ⟨b,0,none⟩)) ll false (fun k=>k=b)∧R w' base n (.pointer (some ⟨br,0,none⟩)) lr false (fun k=>k=br)∧Only (fun k=>k=br) W w') from by
    have h1:=CNX.out (.pointer (some ⟨br,0,none⟩)) base n ⟨lx,false⟩ (fun k=>k=br) W HI.out.2 h hn
    unfold NextF at h1
    rw [eK,eV,eR] at h1
    rw [hll,hlr]
    exact h1)
   have CBX:=hid (fun W (h:R W base n (.pointer (some ⟨br,0,none⟩)) lr false (fun k=>k=br))=>CB.out _ _ _ _ _ _ W h)
   generalize (Rd.mk lx false).l.length=L at CLX zl
   clear hl hm eK eV eR hlr hll hSr
   by_cases ht:t=2
   ·subst ht
    have H0:=hid (show pars o l=thenO (caps o1 ll) (fun o3=>pars o3 lr)∧Small ll from ⟨HP.out,HSL.out⟩)
    go_wp2_with (first
     | (go_at_call 87;(refine (CLX.out).mono ?_;rintro e z ⟨rfl,hb⟩;have S2:=hid (S1.out.below hb);clear hb))
     | (have h:=S2.out;go_at_call 131;(refine (CX.out _ h.rd (Nat.le_trans h.ge.1 h.on.size)).mono ?_;rintro e z ⟨b2,rfl,hb2,hV,hR,ho⟩;have hsz:=h.rs.lt;have S3:=hid (And.intro (h.read (y:=⟨lr,false⟩) hR ho) (R_base hV (show w.heap.size+1≤_ from hsz)));clear hb2 hV hR ho h S2 hsz))
     | (have h:=S3.out;go_at_call 85;(refine (CBX.out _ h.1.rd).mono ?_;rintro e z2 ⟨rfl,hb⟩;have S4:=hid (InSt.start (y:=⟨ll,false⟩) (h.1.below hb) (h.2.below hb));clear hb h S3)))
    go_loopw [7,8] (fun _ _ wx=>∃ (ly:List Nat) (o2:Op),Hid (pars o l=thenO (caps o2 ly) (fun o3=>pars o3 lr)∧Small ly)∧Hid (InSt w base n br B ⟨lr,false⟩ b2 z.heap.size ⟨ly,false⟩ o2 wx)) (fun _ _ wx=>rlen wx b2)
    case atStart=>exact ⟨ll,o1,H0,S4⟩
    case round =>
     clear S4 H0
     obtain ⟨ly,o2,HI2,I1⟩:=hrel
     have CL2:=hid (CL.out _ _ _ _ _ _ _ I1.out.ls)
     have HM2:=hid (R_rlen I1.out.ls)
     rcases on_cases ly with hl2 | ⟨hbad,hpos,-,hp⟩ | ⟨t,m,r,hl2,hm,eK,eV,eR⟩
     ·have HN:=hid (show pars o l=pars o2 lr from by rw [HI2.out.1,hl2,caps_nil];rfl)
      have zl:((ly.length:Nat):Int)=0:=by rw [hl2];rfl
      rw [show (Rd.mk ly false).l.length=ly.length from rfl,zl] at CL2
      clear hl2 zl
      go_wp2_with (first
       | (have h:=I1.out;go_at_call 87;(refine (CL2.out).mono ?_;rintro e q1 ⟨rfl,hb⟩;have I2:=hid (h.below hb);clear hb h I1)))
      go_roundw
      case rel=>exact ⟨lr,o2,hid ⟨HN.out,HSR.out⟩,hid I2.out.pr⟩
      case measure =>
       have e1:=R_rlen I2.out.pr.rd
       have e2:=HM.out
       have e3:=HLL.out
       rw [e1,e2]
       exact e3
     ·have HD:=hid (show pars o l=.inl 0 from by rw [HI2.out.1,hp o2];rfl)
      have zl:(0:Int)<((Rd.mk ly false).l.length:Int):=by show (0:Int)<(ly.length:Int);omega
      have CX2:=hid (fun W h=>CNX.out (.pointer (some ⟨b2,0,none⟩)) (w.heap.size+1) z.heap.size ⟨ly,false⟩ (fun k=>k=b2) W HI2.out.2 h)
      obtain ⟨Y,hY⟩:∃ Y,Y=onR ⟨ly,false⟩:=⟨_,rfl⟩
      have HY:=hid hY
      have CB2:=hid (fun W (h:R W (w.heap.size+1) z.heap.size (.pointer (some ⟨b2,0,none⟩)) Y.l true (fun k=>k=b2))=>CB.out _ _ _ _ _ _ W h)
      have HYB:=hid (show Y.b=true from by rw [hY];exact hbad)
      generalize (Rd.mk ly false).l.length=L at CL2 zl
      clear hbad hpos hp hY
      go_wp2_with (first
       | (have h:=I1.out;go_at_call 87;(refine (CL2.out).mono ?_;rintro e q1 ⟨rfl,hb⟩;have I2:=hid (h.below hb);clear hb h I1))
       | (have h:=I2.out;go_at_call 131;(refine (CX2.out _ h.ls h.lt.2.2).mono ?_;rintro e q2 ⟨b3,rfl,hb3,hV,hR,ho⟩;rw [← HY.out] at hR;have I3:=hid (h.read (z:=Y) hR ho);clear hb3 hV hR ho h I2))
       | (have h:=I3.out;go_at_call 85;(have hr:=h.ls;rw [HYB.out] at hr;refine (CB2.out _ hr).mono ?_;rintro e q3 ⟨rfl,hb⟩;have I4:=hid (h.below hb);clear hb hr h I3)))
      go_step3
      refine ⟨rfl,?_⟩
      go_wp2_with (have h:=I4.out;go_at_call 86;(refine (CF.out _ _ _ _ _).mono ?_;rintro e z ⟨rfl,hb⟩;have SZ:=hid (h.pr.below hb);clear hb h;obtain ⟨f0,f1,f2⟩:=SZ.out.rs.cells;have fr:=SZ.out.rs.free))
      rw [Exit.noGoto_ret]
      (try simp only [Exit.inBlock,Exit.then])
      obtain ⟨r0,r1,r2⟩:=(SZ.out.rs.laid (.int .i64 2) (.int .i64 0) (.slice none 0 0)).cells
      unfold three at r0 r1 r2
      refine bodyPost_ret (v:=.agg #[.int .i64 2,.int .i64 0,.slice none 0 0]) (by simp [results,Tryz.results88,go_sem,r0,r1,r2]) rfl ?_
      obtain ⟨k1,k2⟩:=SZ.out.fin (.int .i64 2) (.int .i64 0) (.slice none 0 0)
      exact ⟨k1,.inr ⟨0,HD.out,.inl rfl,rfl⟩⟩
     ·have zl:(0:Int)<((Rd.mk ly false).l.length:Int):=by show (0:Int)<(ly.length:Int);rw [hl2];simp only [List.length_cons];omega
      obtain ⟨lz,hlz⟩:∃ lz,lz=r.drop m:=⟨_,rfl⟩
      obtain ⟨D,hD⟩:∃ D,D=r.take m:=⟨_,rfl⟩
      have hSr:Small r:=fun x hx=>HI2.out.2 x (by rw [hl2];simp [hx])
      have HSZ:=hid (show Small lz from by rw [hlz];exact hSr.drop m)
      have HSD:=hid (show Small D from by rw [hD];exact hSr.take m)
      have HLZ:=hid (show lz.length<ly.length from by rw [hlz,hl2,List.length_drop];simp;omega)
      have hDL:D.length=m:=by rw [hD,List.length_take];omega
      have HC:=hid (show caps o2 ly=if t=65 then (if m=4∧val D≠0 then caps ⟨val D,o2.hold,o2.ri,true⟩ lz else none) else caps o2 lz from by rw [hl2,caps_step,if_pos hm,← hD,← hlz])
      have CX2:=hid (fun W (h:R W (w.heap.size+1) z.heap.size (.pointer (some ⟨b2,0,none⟩)) ly false (fun k=>k=b2)) (hn:z.heap.size≤W.heap.size)=>show Calls Tryz.prog 131 #[.pointer (some ⟨b2,0,none⟩)] W (fun e w'=>∃ b,e=.returned (.tuple #[.int .i64 t,.pointer (some ⟨b,0,none⟩)])∧W.heap.size≤b∧R w' W.heap.size w'.heap.size (.pointer (some ⟨b,0,none⟩)) D false (fun k=>k=b)∧R w' (w.heap.size+1) z.heap.size (.pointer (some ⟨b2,0,none⟩)) lz false (fun k=>k=b2)∧Only (fun k=>k=b2) W w') from by
       have h1:=CNX.out (.pointer (some ⟨b2,0,none⟩)) (w.heap.size+1) z.heap.size ⟨ly,false⟩ (fun k=>k=b2) W HI2.out.2 h hn
       unfold NextF at h1
       rw [eK,eV,eR] at h1
       rw [hD,hlz]
       exact h1)
      have CB2:=hid (fun W (h:R W (w.heap.size+1) z.heap.size (.pointer (some ⟨b2,0,none⟩)) lz false (fun k=>k=b2))=>CB.out _ _ _ _ _ _ W h)
      generalize (Rd.mk ly false).l.length=L at CL2 zl
      clear hl2 hm eK eV eR hlz hD hSr
      by_cases ht:t=65
      ·subst ht
       obtain ⟨N,hN⟩:∃ N,N=(Rd.mk D false).num 4:=⟨_,rfl⟩
       obtain ⟨Z,hZ⟩:∃ Z,Z=(Rd.mk D false).go 4:=⟨_,rfl⟩
       have CU2:=hid (fun b3 n3 W (h:R W z.heap.size n3 (.pointer (some ⟨b3,0,none⟩)) D false (fun k=>k=b3))=>show Calls Tryz.prog 84 #[.pointer (some ⟨b3,0,none⟩)] W (fun e w'=>e=.returned (.int .u32 N)∧R w' z.heap.size n3 (.pointer (some ⟨b3,0,none⟩)) Z.l Z.b (fun k=>k=b3)∧Only (fun k=>k=b3) W w') from by
        rw [hN,hZ]
        exact CU.out _ _ _ D false _ W HSD.out h)
       have CL3:=hid (fun b3 n3 W (h:R W z.heap.size n3 (.pointer (some ⟨b3,0,none⟩)) Z.l Z.b (fun k=>k=b3))=>CL.out _ _ _ _ _ _ W h)
       have hfg:=four_go D
       rw [← hN,← hZ] at hfg
       have hN4:N<4294967296:=by rw [hN];exact num_lt (x:=⟨D,false⟩) HSD.out 4
       clear hN hZ
       by_cases hN0:N=0
       ·have y3:((N:Int) == 0)=true:=by simp [hN0]
        have HD:=hid (show pars o l=.inl 0 from by
         have hno:¬ (m=4∧val D≠0):=by
          rintro ⟨e4,ev⟩
          rcases hfg with ⟨_,e,_⟩ | ⟨e,_⟩
          ·exact ev (e.symm.trans hN0)
          ·omega
         rw [HI2.out.1,HC.out,if_pos rfl,if_neg hno];rfl)
        clear hN0 hfg hDL
        go_wp2_with (first
         | (have h:=I1.out;go_at_call 87;(refine (CL2.out).mono ?_;rintro e q1 ⟨rfl,hb⟩;have I2:=hid (h.below hb);clear hb h I1))
         | (have h:=I2.out;go_at_call 131;(refine (CX2.out _ h.ls h.lt.2.2).mono ?_;rintro e q2 ⟨b3,rfl,hb3,hV,hR,ho⟩;have I3:=hid (VaSt.mk (z:=⟨D,false⟩) (h.read (z:=⟨lz,false⟩) hR ho) (R_base hV h.lt.2.2));clear hb3 hV hR ho h I2))
         | (have h:=I3.out;go_at_call 85;(refine (CB2.out _ h.ins.ls).mono ?_;rintro e q3 ⟨rfl,hb⟩;have I4:=hid (h.below hb);clear hb h I3;obtain ⟨c0,c1,c2,c3⟩:=I4.out.ins.pr.bo.cells;have fo:=I4.out.ins.pr.bo.free;have I5:=hid I4.out.set3))
         | (have h:=I5.out;go_at_call 84;(refine (CU2.out _ _ _ h.vl).mono ?_;rintro e q4 ⟨rfl,hR,ho⟩;have I6:=hid (h.read (u:=Z) hR ho);clear hR ho h I5 I4 c0 c1 c2 c3 fo;obtain ⟨c0,c1,c2,c3⟩:=I6.out.ins.pr.bo.cells;have fo:=I6.out.ins.pr.bo.free;have I7:=hid (I6.out.set0 N);obtain ⟨d0,d1,d2,d3⟩:=I7.out.ins.pr.bo.cells)))
        go_step3
        refine ⟨rfl,?_⟩
        go_wp2_with (have h:=I7.out;go_at_call 86;(refine (CF.out _ _ _ _ _).mono ?_;rintro e z ⟨rfl,hb⟩;have SZ:=hid (h.ins.pr.below hb);clear hb h;obtain ⟨f0,f1,f2⟩:=SZ.out.rs.cells;have fr:=SZ.out.rs.free))
        rw [Exit.noGoto_ret]
        (try simp only [Exit.inBlock,Exit.then])
        obtain ⟨r0,r1,r2⟩:=(SZ.out.rs.laid (.int .i64 2) (.int .i64 0) (.slice none 0 0)).cells
        unfold three at r0 r1 r2
        refine bodyPost_ret (v:=.agg #[.int .i64 2,.int .i64 0,.slice none 0 0]) (by simp [results,Tryz.results88,go_sem,r0,r1,r2]) rfl ?_
        obtain ⟨k1,k2⟩:=SZ.out.fin (.int .i64 2) (.int .i64 0) (.slice none 0 0)
        exact ⟨k1,.inr ⟨0,HD.out,.inl rfl,rfl⟩⟩
       have y3:((N:Int) == 0)=false:=by simp;omega
       rcases Nat.eq_zero_or_pos Z.l.length with hz | hz
       ·have HN:=hid (show pars o l=thenO (caps ⟨N,o2.hold,o2.ri,true⟩ lz) (fun o3=>pars o3 lr) from by
         rcases hfg with ⟨e4,e,_⟩ | ⟨_,e | e⟩
         ·rw [HI2.out.1,HC.out,if_pos rfl,if_pos ⟨by omega,by rw [← e];exact hN0⟩,e]
         ·exact absurd e hN0
         ·omega)
        have zz:((Z.l.length:Nat):Int)=0:=by rw [hz];rfl
        simp only [zz] at CL3
        clear hN0 hfg hDL hz zz
        go_wp2_with (first
         | (have h:=I1.out;go_at_call 87;(refine (CL2.out).mono ?_;rintro e q1 ⟨rfl,hb⟩;have I2:=hid (h.below hb);clear hb h I1))
         | (have h:=I2.out;go_at_call 131;(refine (CX2.out _ h.ls h.lt.2.2).mono ?_;rintro e q2 ⟨b3,rfl,hb3,hV,hR,ho⟩;have I3:=hid (VaSt.mk (z:=⟨D,false⟩) (h.read (z:=⟨lz,false⟩) hR ho) (R_base hV h.lt.2.2));clear hb3 hV hR ho h I2))
         | (have h:=I3.out;go_at_call 85;(refine (CB2.out _ h.ins.ls).mono ?_;rintro e q3 ⟨rfl,hb⟩;have I4:=hid (h.below hb);clear hb h I3;obtain ⟨c0,c1,c2,c3⟩:=I4.out.ins.pr.bo.cells;have fo:=I4.out.ins.pr.bo.free;have I5:=hid I4.out.set3))
         | (have h:=I5.out;go_at_call 84;(refine (CU2.out _ _ _ h.vl).mono ?_;rintro e q4 ⟨rfl,hR,ho⟩;have I6:=hid (h.read (u:=Z) hR ho);clear hR ho h I5 I4 c0 c1 c2 c3 fo;obtain ⟨c0,c1,c2,c3⟩:=I6.out.ins.pr.bo.cells;have fo:=I6.out.ins.pr.bo.free;have I7:=hid (I6.out.set0 N);obtain ⟨d0,d1,d2,d3⟩:=I7.out.ins.pr.bo.cells))
         | (have h:=I7.out;go_at_call 87;(refine (CL3.out _ _ _ h.vl).mono ?_;rintro e q5 ⟨rfl,hb⟩;have I8:=hid (h.below hb);clear hb h)))
        go_roundw
        case rel=>exact ⟨lz,_,hid ⟨HN.out,HSZ.out⟩,hid I8.out.ins⟩
        case measure =>
         have e1:=R_rlen I8.out.ins.ls
         have e2:=HM2.out
         have e3:=HLZ.out
         rw [e1,e2]
         exact e3
       ·have HD:=hid (show pars o l=.inl 0 from by
         have hno:¬ (m=4∧val D≠0):=by
          rintro ⟨e4,ev⟩
          rcases hfg with ⟨_,_,e⟩ | ⟨e,_⟩
          ·omega
          ·omega
         rw [HI2.out.1,HC.out,if_pos rfl,if_neg hno];rfl)
        have zz:(0:Int)<(Z.l.length:Int):=by omega
        generalize Z.l.length=L3 at CL3 zz
        clear hN0 hfg hDL hz
        go_wp2_with (first
         | (have h:=I1.out;go_at_call 87;(refine (CL2.out).mono ?_;rintro e q1 ⟨rfl,hb⟩;have I2:=hid (h.below hb);clear hb h I1))
         | (have h:=I2.out;go_at_call 131;(refine (CX2.out _ h.ls h.lt.2.2).mono ?_;rintro e q2 ⟨b3,rfl,hb3,hV,hR,ho⟩;have I3:=hid (VaSt.mk (z:=⟨D,false⟩) (h.read (z:=⟨lz,false⟩) hR ho) (R_base hV h.lt.2.2));clear hb3 hV hR ho h I2))
         | (have h:=I3.out;go_at_call 85;(refine (CB2.out _ h.ins.ls).mono ?_;rintro e q3 ⟨rfl,hb⟩;have I4:=hid (h.below hb);clear hb h I3;obtain ⟨c0,c1,c2,c3⟩:=I4.out.ins.pr.bo.cells;have fo:=I4.out.ins.pr.bo.free;have I5:=hid I4.out.set3))
         | (have h:=I5.out;go_at_call 84;(refine (CU2.out _ _ _ h.vl).mono ?_;rintro e q4 ⟨rfl,hR,ho⟩;have I6:=hid (h.read (u:=Z) hR ho);clear hR ho h I5 I4 c0 c1 c2 c3 fo;obtain ⟨c0,c1,c2,c3⟩:=I6.out.ins.pr.bo.cells;have fo:=I6.out.ins.pr.bo.free;have I7:=hid (I6.out.set0 N);obtain ⟨d0,d1,d2,d3⟩:=I7.out.ins.pr.bo.cells))
         | (have h:=I7.out;go_at_call 87;(refine (CL3.out _ _ _ h.vl).mono ?_;rintro e q5 ⟨rfl,hb⟩;have I8:=hid (h.below hb);clear hb h)))
        go_step3
        refine ⟨rfl,?_⟩
        go_wp2_with (have h:=I8.out;go_at_call 86;(refine (CF.out _ _ _ _ _).mono ?_;rintro e z ⟨rfl,hb⟩;have SZ:=hid (h.ins.pr.below hb);clear hb h;obtain ⟨f0,f1,f2⟩:=SZ.out.rs.cells;have fr:=SZ.out.rs.free))
        rw [Exit.noGoto_ret]
        (try simp only [Exit.inBlock,Exit.then])
        obtain ⟨r0,r1,r2⟩:=(SZ.out.rs.laid (.int .i64 2) (.int .i64 0) (.slice none 0 0)).cells
        unfold three at r0 r1 r2
        refine bodyPost_ret (v:=.agg #[.int .i64 2,.int .i64 0,.slice none 0 0]) (by simp [results,Tryz.results88,go_sem,r0,r1,r2]) rfl ?_
        obtain ⟨k1,k2⟩:=SZ.out.fin (.int .i64 2) (.int .i64 0) (.slice none 0 0)
        exact ⟨k1,.inr ⟨0,HD.out,.inl rfl,rfl⟩⟩
      ·have y2:((t:Int) != 65)=true:=by simp;omega
       have HN:=hid (show pars o l=thenO (caps o2 lz) (fun o3=>pars o3 lr) from by rw [HI2.out.1,HC.out,if_neg ht])
       clear ht hDL
       go_wp2_with (first
        | (have h:=I1.out;go_at_call 87;(refine (CL2.out).mono ?_;rintro e q1 ⟨rfl,hb⟩;have I2:=hid (h.below hb);clear hb h I1))
        | (have h:=I2.out;go_at_call 131;(refine (CX2.out _ h.ls h.lt.2.2).mono ?_;rintro e q2 ⟨b3,rfl,hb3,hV,hR,ho⟩;have I3:=hid (VaSt.mk (z:=⟨D,false⟩) (h.read (z:=⟨lz,false⟩) hR ho) (R_base hV h.lt.2.2));clear hb3 hV hR ho h I2))
        | (have h:=I3.out;go_at_call 85;(refine (CB2.out _ h.ins.ls).mono ?_;rintro e q3 ⟨rfl,hb⟩;have I4:=hid (h.below hb);clear hb h I3)))
       go_roundw
       case rel=>exact ⟨lz,o2,hid ⟨HN.out,HSZ.out⟩,hid I4.out.ins⟩
       case measure =>
        have e1:=R_rlen I4.out.ins.ls
        have e2:=HM2.out
        have e3:=HLZ.out
        rw [e1,e2]
        exact e3
   ·have y2:((t:Int) != 2)=true:=by simp;omega
    have HD:=hid (show pars o l=.inl 4 from by rw [HP.out,if_neg ht])
    clear ht
    go_wp2_with (first
     | (go_at_call 87;(refine (CLX.out).mono ?_;rintro e z ⟨rfl,hb⟩;have S2:=hid (S1.out.below hb);clear hb))
     | (have h:=S2.out;go_at_call 131;(refine (CX.out _ h.rd (Nat.le_trans h.ge.1 h.on.size)).mono ?_;rintro e z ⟨b2,rfl,hb2,hV,hR,ho⟩;have hsz:=h.rs.lt;have S3:=hid (And.intro (h.read (y:=⟨lr,false⟩) hR ho) (R_base hV (show w.heap.size+1≤_ from hsz)));clear hb2 hV hR ho h S2 hsz))
     | (have h:=S3.out;go_at_call 85;(refine (CBX.out _ h.1.rd).mono ?_;rintro e z2 ⟨rfl,hb⟩;have S4:=hid (InSt.start (y:=⟨ll,false⟩) (h.1.below hb) (h.2.below hb));clear hb h S3))
     | (have h:=S4.out;go_at_call 86;(refine (CF.out _ _ _ _ _).mono ?_;rintro e z ⟨rfl,hb⟩;have SZ:=hid (h.pr.below hb);clear hb h;obtain ⟨f0,f1,f2⟩:=SZ.out.rs.cells;have fr:=SZ.out.rs.free)))
    rw [jump_ret]
    (try simp only [Exit.inBlock,Exit.then])
    obtain ⟨r0,r1,r2⟩:=(SZ.out.rs.laid (.int .i64 2) (.int .i64 4) (.slice none 0 0)).cells
    unfold three at r0 r1 r2
    refine bodyPost_ret (v:=.agg #[.int .i64 2,.int .i64 4,.slice none 0 0]) (by simp [results,Tryz.results88,go_sem,r0,r1,r2]) rfl ?_
    obtain ⟨k1,k2⟩:=SZ.out.fin (.int .i64 2) (.int .i64 4) (.slice none 0 0)
    exact ⟨k1,.inr ⟨4,HD.out,.inr rfl,rfl⟩⟩
end Opn
namespace Opn
open Go.RowKit Mem Oct Att
def DecF9 (b:List Nat) (w:World) (e:Ending) (w':World):Prop :=
 ∃ vn,e=.returned (.tuple #[opn (outO (decO b)).1,vn])∧Note w' vn (outO (decO b)).2∧Below w.heap.size w w'
structure Rd0 (w W:World):Prop where
 r4:Box4 W w.heap.size 24 (.int .u32 0) (.int .i64 0) (.int .u32 0) (.bool false)
 r3:Box3 W (w.heap.size+1) 34 (.int .i64 0) (.int .i64 0) (.slice none 0 0)
 low:Below w.heap.size w W
theorem Rd0.below {w W W2:World} (h:Rd0 w W) (hb:Below W.heap.size W W2):Rd0 w W2:=⟨h.r4.keep hb,h.r3.keep hb,h.low.trans (hb.mono h.low.size)⟩
theorem rd0_start (w:World):Rd0 w ((w.alloc (.cells #[.int .u32 0,.int .i64 0,.int .u32 0,.bool false] 24)).alloc (.cells #[.int .i64 0,.int .i64 0,.slice none 0 0] 34)):=by
 have h1:=Box4.new w 24 (.int .u32 0) (.int .i64 0) (.int .u32 0) (.bool false)
 have b1:Below w.heap.size w (w.alloc (.cells #[.int .u32 0,.int .i64 0,.int .u32 0,.bool false] 24)):=(Below.refl _ w).alloc (Nat.le_refl _) _
 have e1:(w.alloc (.cells #[.int .u32 0,.int .i64 0,.int .u32 0,.bool false] 24)).heap.size=w.heap.size+1:=by simp
 have h2:=Box3.new (w.alloc (.cells #[.int .u32 0,.int .i64 0,.int .u32 0,.bool false] 24)) 34 (.int .i64 0) (.int .i64 0) (.slice none 0 0)
 rw [e1] at h2
 exact ⟨h1.keep ((Below.refl _ _).alloc (Nat.le_refl _) _),h2,b1.alloc b1.size _⟩
def ends (w W:World) (x y z u a b c:Value):World:=three (four W w.heap.size x y z u) (w.heap.size+1) a b c
theorem Rd0.mid {w W:World} (h:Rd0 w W) (x y z u:Value):Box3 (four W w.heap.size x y z u) (w.heap.size+1) 34 (.int .i64 0) (.int .i64 0) (.slice none 0 0):=by
 have ho:=four_off W w.heap.size x y z u
 exact ⟨(ho.1 _ (by omega)).trans h.r3.blk⟩
theorem Rd0.fin {w W:World} (h:Rd0 w W) (x y z u a b c:Value):Box4 (ends w W x y z u a b c) w.heap.size 24 x y z u∧Box3 (ends w W x y z u a b c) (w.heap.size+1) 34 a b c∧Below w.heap.size w (ends w W x y z u a b c):=by
 have ho:=three_off (four W w.heap.size x y z u) (w.heap.size+1) a b c
 exact ⟨⟨(ho.1 _ (by omega)).trans (h.r4.laid x y z u).blk⟩,(h.mid x y z u).laid a b c,three_low (four_low h.low _ (Nat.le_refl _) x y z u) _ (by omega) a b c⟩
end Opn
namespace Opn
open Oct Att Mem
theorem val4 {l:List Nat} {k:Nat} (h:Small l) (hk:k≤4):val (l.take k)<4294967296:=Nat.lt_of_lt_of_le (val_lt k h) (by rw [show (4294967296:Nat)=256 ^ 4 by decide];exact Nat.pow_le_pow_right (by decide) hk)
theorem caps_ok:∀ (n:Nat) (o:Op) (b:List Nat) (o2:Op),Small b→o.ok→capsO n o b=some o2→o2.ok
 | 0,o,b,o2,_,ho,h=>by
  unfold capsO at h
  split at h
  ·injection h with h;rw [← h];exact ho
  ·cases h
 | n+1,o,b,o2,hs,ho,h=>by
  match b,hs with
  | [],_=>simp only [capsO] at h;injection h with h;rw [← h];exact ho
  | [c],_=>simp only [capsO] at h;cases h
  | c :: m :: r,hs =>
   have hr:Small r:=fun x hx=>hs x (List.mem_cons_of_mem _ (List.mem_cons_of_mem _ hx))
   have hd:Small (r.drop m):=fun x hx=>hr x (List.mem_of_mem_drop hx)
   simp only [capsO] at h
   split at h
   ·split at h
    ·split at h
     ·rename_i h4
      exact caps_ok n ⟨val (r.take m),o.hold,o.ri,true⟩ _ o2 hd ⟨val4 hr (by omega),ho.2.1,ho.2.2⟩ h
     ·cases h
    ·exact caps_ok n _ _ o2 hd ho h
   ·cases h
theorem pars_ok:∀ (n:Nat) (o:Op) (b:List Nat) (o2:Op),Small b→o.ok→parsO n o b=.inr o2→o2.ok
 | 0,o,b,o2,_,ho,h=>by
  unfold parsO at h
  split at h
  ·injection h with h;rw [← h];exact ho
  ·cases h
 | n+1,o,b,o2,hs,ho,h=>by
  match b,hs with
  | [],_=>simp only [parsO] at h;injection h with h;rw [← h];exact ho
  | [c],_=>simp only [parsO] at h;cases h
  | c :: m :: r,hs =>
   have hr:Small r:=fun x hx=>hs x (List.mem_cons_of_mem _ (List.mem_cons_of_mem _ hx))
   have hd:Small (r.drop m):=fun x hx=>hr x (List.mem_of_mem_drop hx)
   simp only [parsO] at h
   split at h
   ·split at h
    ·split at h
     ·rename_i o3 hc
      exact pars_ok n _ _ o2 hd (caps_ok m o (r.take m) o3 (hr.take m) ho hc) h
     ·cases h
    ·cases h
   ·cases h
theorem out_ok {b:List Nat} (hs:Small b):(outO (decO b)).1.ok:=by
 have z:zeroO.ok:=⟨by decide,by decide,by decide⟩
 cases h:decO b with
 | inl s=>exact z
 | inr o =>
  show o.ok
  have hd:∀ k,Small (b.drop k):=fun k x hx=>hs x (List.mem_of_mem_drop hx)
  have h1:=val4 (hd 1) (k:=2) (by decide)
  have h2:=val_lt 2 (hd 3)
  have h3:=val4 (hd 5) (k:=4) (by decide)
  unfold decO at h
  split at h
  ·cases h
  ·split at h
   ·cases h
   ·split at h
    ·cases h
    ·split at h
     ·cases h
     ·split at h
      ·cases h
      ·split at h
       ·cases h
       ·refine pars_ok _ _ _ o (hd 10) ⟨h1,?_,h3⟩ h
        show (Lit.int .i64 (val ((b.drop 3).take 2):Nat)).wf=true
        simp [Lit.wf,IntKind.min,IntKind.max,IntKind.signed,IntKind.bits]
        omega
end Opn
namespace Ntc
open Go.RowKit Mem Oct Att
open Go.Lib (hid)
structure EeSt (w w0:World) (x0 x1 x2:Value) (d:List Nat) (P:Value) (l:List Nat) (F:Nat→Prop) (W:World):Prop where
 box:Box3 w0 w.heap.size 34 x0 x1 x2
 dat:U8s w0 x2 d
 bel:Below w.heap.size w w0
 wr:Wr W w0.heap.size P l F
 low:Below w0.heap.size w0 W
section
variable {w w0 W W2:World} {P x x0 x1 x2:Value} {d l l2:List Nat} {F:Nat→Prop} {e:Ending}
theorem EeSt.cells (h:EeSt w w0 x0 x1 x2 d P l F W):W.cell? ⟨w.heap.size,0,none⟩=some x0∧W.cell? ⟨w.heap.size,1,none⟩=some x1∧W.cell? ⟨w.heap.size,2,none⟩=some x2:=(h.box.keep h.low).cells
theorem EeSt.below (h:EeSt w w0 x0 x1 x2 d P l F W) (hb:Below W.heap.size W W2):EeSt w w0 x0 x1 x2 d P l F W2:=⟨h.box,h.dat,h.bel,h.wr.below hb,h.low.trans (hb.mono h.low.size)⟩
theorem EeSt.add (h:EeSt w w0 x0 x1 x2 d P l F W) (k:AddF w0.heap.size P x l2 F W e W2):∃ F2,e=.returned x∧EeSt w w0 x0 x1 x2 d P l2 F2 W2:=by
 obtain ⟨F2,h1,h2,h3,-⟩:=k
 exact ⟨F2,h1,h.box,h.dat,h.bel,h2,h.low.trans (h3.below (fun k hk=>(h.wr.lt k hk).1) h.low.size)⟩
end
def EncF (l:List Nat) (er:Int) (w:World) (e:Ending) (w':World):Prop :=
 ∃ A c,e=.returned (.tuple #[.slice A l.length c,.int .i64 er])∧w'.ownsRow w.heap.size 5 1 (.slice A l.length c) l.length (cells8 l)∧Below w.heap.size w w'
theorem enc_bad (v:Value) (n:No) (w:World) (h:Note w v n) (hg:goodN n=false):Calls Tryz.prog 57 #[v] w (EncF [] 1 w):=by
 have H:=hid h
 obtain ⟨-,-,vd,rfl,hd⟩:=h
 have BB:=hid (ntc_box w (.int .i64 n.code) (.int .i64 n.sub) vd)
 have CG:=hid (good_any _ n _ (H.out.keep BB.out))
 rw [hg] at CG
 clear hd hg
 go_enter Tryz.func57,Tryz.ntmps57
 go_wp2_with (go_at_call 29;refine (CG.out).mono ?_;rintro e x ⟨rfl,hb⟩)
 go_ret2
 exact ⟨none,0,rfl,own_nil8 _ _,BB.out.trans (hb.mono BB.out.size)⟩
theorem enc_ok (v:Value) (n:No) (w:World) (h:Note w v n) (hg:goodN n=true):Calls Tryz.prog 57 #[v] w (EncF (encN n) 0 w):=by
 have H:=hid h
 obtain ⟨-,-,vd,rfl,hd⟩:=h
 have HX:=hid (Box3.new w 34 (.int .i64 n.code) (.int .i64 n.sub) vd)
 have BB:=hid (ntc_box w (.int .i64 n.code) (.int .i64 n.sub) vd)
 have CG:=hid (good_any _ n _ (H.out.keep BB.out))
 have HL:=hid (goodN_of hg).2.2.2.2
 rw [hg] at CG
 obtain ⟨c0,c1,c2⟩:=HX.out.cells
 have HD:=hid (hd.keep BB.out)
 have EN:=hid (show [] ++ [lo8 n.code] ++ [lo8 n.sub] ++ n.data=encN n from rfl)
 have EL:=hid (show (encN n).length=n.data.length+2 from by unfold encN;simp)
 generalize encN n=M at EN EL ⊢
 clear hd hg
 go_enter Tryz.func57,Tryz.ntmps57
 go_wp2_with (go_at_call 29;refine (CG.out).mono ?_;rintro e x ⟨rfl,hb⟩;have T0:=hid (EeSt.mk (HX.out.keep hb) (HD.out.keep hb) (BB.out.trans (hb.mono BB.out.size)) (wr_zero x (Nat.le_refl _)) ((Below.refl _ x).alloc (Nat.le_refl _) _));clear c0 c1 c2 hb;obtain ⟨c0,c1,c2⟩:=T0.out.box.cells;obtain ⟨q0,q1,q2⟩:=T0.out.cells)
 replace T0:=hid (T0.out.below (Below.refl _ _).drew)
 clear q0 q1 q2
 obtain ⟨q0,q1,q2⟩:=T0.out.cells
 go_region_held3 (fun w'=>w'.cell? ⟨w.heap.size,0,none⟩=some (.int .i64 n.code)∧w'.cell? ⟨w.heap.size,1,none⟩=some (.int .i64 n.sub)∧w'.cell? ⟨w.heap.size,2,none⟩=some vd) (exact ⟨by assumption,by assumption,by assumption⟩) (first
  | (have h:=T0.out;go_at_call 62;refine (w8_put _ _ _ _ n.code _ h.wr (by simp) h.low.size).mono ?_;intro e z hA;obtain ⟨F,rfl,hS⟩:=h.add hA;have T1:=hid hS;clear h hA hS T0;clear q0 q1 q2;obtain ⟨q0,q1,q2⟩:=T1.out.cells)
  | (have h:=T1.out;go_at_call 62;refine (w8_put _ _ _ _ n.sub _ h.wr (by simp) h.low.size).mono ?_;intro e z hA;obtain ⟨F,rfl,hS⟩:=h.add hA;have T2:=hid hS;clear h hA hS T1;clear q0 q1 q2;obtain ⟨q0,q1,q2⟩:=T2.out.cells)
  | (have h:=T2.out;go_at_call 59;refine (put_any _ _ _ _ _ _ _ h.wr (h.dat.keep h.low) (by have:=HL.out;simp;omega) h.low.size).mono ?_;intro e z hA;obtain ⟨F,rfl,hS⟩:=h.add hA;rw [EN.out] at hS;have T3:=hid hS;clear h hA hS T2;clear q0 q1 q2;obtain ⟨q0,q1,q2⟩:=T3.out.cells)
  | (have h:=T3.out;go_at_call 63;refine (wbytes_any _ _ _ _ _ h.wr (by have:=HL.out;have:=EL.out;omega)).mono ?_;rintro e z ⟨A3,c3,rfl,ho,hb⟩;have T4:=hid (And.intro ho (And.intro h.bel (And.intro h.low hb)));have T5:=hid (h.below hb);clear h ho hb T3;clear q0 q1 q2;obtain ⟨q0,q1,q2⟩:=T5.out.cells))
 go_wp2
 go_ret2
 obtain ⟨h1,h2,h3,h4⟩:=T4.out
 have h5:=h2.trans (h3.mono h2.size)
 exact ⟨A3,c3,rfl,own_base h1 h5.size,h5.trans (h4.mono h5.size)⟩
def EncW (n:No) (EB:List Nat) (er:Int):Prop:=(goodN n=false∧EB=[]∧er=1)∨(goodN n=true∧EB=encN n∧er=0)
theorem enc_all (n:No) (hs:Small n.data):∃ EB er,EncW n EB er∧Small EB∧EB.length≤4077∧∀ v W,Note W v n→Calls Tryz.prog 57 #[v] W (EncF EB er W):=by
 cases hg:goodN n with
 | false=>exact ⟨[],1,.inl ⟨hg,rfl,rfl⟩,small_nil,by decide,fun v W h=>enc_bad v n W h hg⟩
 | true=>exact ⟨encN n,0,.inr ⟨hg,rfl,rfl⟩,encN_small hs,by have:=(goodN_of hg).2.2.2.2;unfold encN;simp;omega,fun v W h=>enc_ok v n W h hg⟩
end Ntc
end Go.Proofs.YtjfmompgkkdliaaGreatDoor
