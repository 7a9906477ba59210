/- Part of the proof. -/
import Derived.Test.YtjfmompgkkdliaaGreatDoorG00
import Derived.Test.YtjfmompgkkdliaaGreatDoorG05
import Derived.Test.YtjfmompgkkdliaaGreatDoorG04
import Derived.BigQuiet
import Derived.Test.YtjfmompgkkdliaaGreatDoorG02
import Derived.Laws.IdiomCopy
import Derived.Lib.SliceRun
open Go.Lib (hid)
set_option maxRecDepth 100000
set_option maxHeartbeats 40000000
namespace Go.Proofs.YtjfmompgkkdliaaGreatDoor
namespace PR
open Go.RowKit Go.Sort Mem Pfx
theorem elemP:∃ i,IsElem Tryz.prog 25 67 2 16 i (.agg #[.int .u32 0,.int .i64 0]):=IsElem.mk_ Tryz.underlying25 (by kernel_rfl) rfl (by decide)
def GivesP (l:List Pf) (w:World) (e:Ending) (w':World):Prop :=
 ∃ A c,e=.returned (.slice A l.length c)∧w'.ownsRow w.heap.size 67 2 (.slice A l.length c) l.length (pcells l)∧Below w.heap.size w w'
theorem own_blk2 {W:World} {base B:Nat} {t:TypeId} (hB:base≤B) (h:W.heap[B]?=some (.cells #[] t (0,0))):W.ownsRow base t 2 (.slice (some ⟨B,0,none⟩) 0 0) 0 [] :=
 ⟨rfl,.inr ⟨B,0,#[],rfl,hB,h,Nat.le_refl _,Nat.zero_le _,rfl,rfl⟩⟩
theorem few_any (v:Value) (l:List Pf) (m:Nat) (w:World) (hv:Pfxs w v l) (hm:m≤1000000):Calls Tryz.prog 53 #[v,.int .i64 m] w (GivesP (l.take m) w):=by
 obtain ⟨i0,E0⟩:=elemP
 obtain ⟨A,c,rfl,hlc,hc⟩:=hv.form
 have h0:(w.alloc (.cells #[] 67)).ownsRow w.heap.size 67 2 (.slice (some ⟨w.heap.size,0,none⟩) 0 0) 0 (pcells []):=own_blk2 (Nat.le_refl _) (heap_alloc_new _ _)
 have H0:=hid h0
 have hb:Below w.heap.size w (w.alloc (.cells #[] 67)):=(Below.refl _ w).alloc (Nat.le_refl _) _
 have HBB:=hid hb
 by_cases hlt:m<l.length
 ·have z0:(0:Int)≤(m:Int):=by omega
  have z1:(m:Int)<(l.length:Int):=by omega
  have z2:(m:Int)≤(c:Int):=by omega
  have e1:(l.take m).length=m:=by rw [List.length_take];omega
  have hp:=((hv.keep hb).prefix_ (k:=m) (d:=c) (by omega) (by omega) (by unfold maxLen;omega)).1
  rw [e1] at hp
  have HP:=hid hp
  have HE:=hid e1
  clear hv h0 hb hp e1
  go_enter Tryz.func53,Tryz.ntmps53
  go_wp2_with (at_builtin;refine wpList_append_row rfl (.tmp 12) (.tmp 13) rfl E0 w.heap.size _ 0 _ rfl H0.out _ m (pcells (l.take m)) rfl HP.out (ones_p _) (by unfold maxLen;omega) (by omega) (by simp) (m) (Nat.zero_add _) ?_;intro A1 c1 w1 hown1 hg1 hat1 hb1;have HO:=hid hown1;have HB1:=hid hb1;clear hown1 hg1 hat1 hb1)
  go_ret
  refine ⟨_,_,by rw [HE.out];rfl,by rw [HE.out];exact HO.out,HBB.out.trans HB1.out⟩
 ·have z1:(l.length:Int)≤(m:Int):=by omega
  have HE:=hid (List.take_of_length_le (show l.length≤m by omega))
  have HP:=hid (hv.keep hb).1
  clear hv h0 hb
  go_enter Tryz.func53,Tryz.ntmps53
  go_wp2_with (at_builtin;refine wpList_append_row rfl (.tmp 12) (.tmp 13) rfl E0 w.heap.size _ 0 _ rfl H0.out _ l.length (pcells l) rfl HP.out (ones_p _) (by unfold maxLen;omega) (by omega) (by simp) (l.length) (Nat.zero_add _) ?_;intro A1 c1 w1 hown1 hg1 hat1 hb1;have HO:=hid hown1;have HB1:=hid hb1;clear hown1 hg1 hat1 hb1)
  go_ret
  refine ⟨_,_,by rw [HE.out];rfl,by rw [HE.out];exact HO.out,HBB.out.trans HB1.out⟩
def good (p:Pf):Bool:=goodB p.a p.n
def sizeN (p:Pf):Nat:=if good p then 1+(p.n.toNat+7) / 8 else 0
theorem sizeN_le (p:Pf):sizeN p≤5:=by
 unfold sizeN
 split
 ·rename_i h
  have:=goodB_len h
  omega
 ·omega
theorem refSize_any (p:Pf) (w:World) (ha:p.a<4294967296):Calls Tryz.prog 125 #[pV p] w (Tells (.int .i64 (sizeN p)) w):=by
 obtain ⟨a,n⟩:=p
 unfold pV
 dsimp only at ha ⊢
 have hb:=below_new w (.cells #[.int .u32 (a:Int),.int .i64 n] 67)
 obtain ⟨c0,c1⟩:=cells_two w (.int .u32 (a:Int)) (.int .i64 n) 67
 have CG:=hid (fun (W:World)=>refGood_any a n ha W)
 have hlt:w.heap.size<(w.alloc (.cells #[.int .u32 (a:Int),.int .i64 n] 67)).heap.size:=by simp
 have HS:=hid (show sizeN ⟨a,n⟩=if goodB a n then 1+(n.toNat+7) / 8 else 0 from rfl)
 by_cases hg:goodB a n=true
 ·obtain ⟨h0,h1⟩:=goodB_len hg
  obtain ⟨k,rfl⟩:=Int.eq_ofNat_of_zero_le h0
  have hk:k≤32:=by omega
  have e:sizeN ⟨a,(k:Int)⟩=1+(k+7) / 8:=by rw [HS.out,if_pos hg];simp
  rw [e]
  rw [hg] at CG
  have HB:=hid hb
  clear hg h0 h1 e HS hb
  go_enter Tryz.func125,Tryz.ntmps125
  go_wp2_with (go_at_call 119;refine (CG.out _).mono ?_;rintro e w1 ⟨rfl,hb1⟩;have c2:=(hb1.cell (p:=⟨w.heap.size,1,none⟩) hlt).trans c1;have HB1:=hid (HB.out.trans (hb1.mono HB.out.size));clear hb1 c0 c1 hlt)
  go_loopw [3,4] (fun v3 v4 wx=>∃ j:Nat,8*j≤k+7∧v3=.int .i64 ((1+j:Nat):Int)∧v4=.int .i64 ((8*j:Nat):Int)∧wx=w1) (fun _ v4 _=>40 - (intOf v4).toNat)
  case atStart=>exact ⟨0,by omega,rfl,rfl,rfl⟩
  case round =>
   obtain ⟨j,hj,rfl,rfl,rfl⟩:=hrel
   obtain ⟨i,hi⟩:∃ i,i=8*j:=⟨_,rfl⟩
   obtain ⟨m,hm⟩:∃ m,m=1+j:=⟨_,rfl⟩
   rw [← hi,← hm]
   by_cases hlt:i<k
   ·have z1:(i:Int)<(k:Int):=by omega
    have z2:(m:Int)≤40:=by omega
    have HI:=hid (And.intro hi hm)
    clear hi hm
    go_wp2
    go_roundw
    case rel=>exact ⟨j+1,by have:=HI.out;omega,by rw [show 1+(j+1)=m+1 by have:=HI.out;omega];go_num,by rw [show 8*(j+1)=i+8 by have:=HI.out;omega];go_num,trivial⟩
    case measure=>simp [intOf];omega
   ·have z1:decide ((i:Int)<(k:Int))=false:=decide_eq_false (by omega)
    have HM:=hid (show m=1+(k+7) / 8 by omega)
    clear hi hm
    go_wp2
    go_ret
    exact ⟨by rw [← HM.out];rfl,HB1.out⟩
 ·have e:sizeN ⟨a,n⟩=0:=by rw [HS.out,if_neg hg]
  rw [e]
  have hf:goodB a n=false:=by simpa using hg
  rw [hf] at CG
  have HB:=hid hb
  clear hg hf e HS hb
  go_enter Tryz.func125,Tryz.ntmps125
  go_wp2_with (go_at_call 119;refine (CG.out _).mono ?_;rintro e w1 ⟨rfl,hb1⟩;have HB1:=hid (HB.out.trans (hb1.mono HB.out.size));clear hb1)
  go_ret
  exact ⟨rfl,HB1.out⟩
end PR
namespace PR
open Go.RowKit Go.Sort Mem Pfx
theorem all_take {l:List Pf} {j:Nat} {p:Pf} (h:l[j]?=some p):(l.take (j+1)).all good=((l.take j).all good && good p):=by
 rw [List.take_add_one,h];simp
theorem all_bad {l:List Pf} {j:Nat} {p:Pf} (h:l[j]?=some p) (hp:good p=false):l.all good=false:=by
 rw [List.all_eq_false]
 exact ⟨p,List.mem_of_getElem? h,by simp [hp]⟩
theorem refGoods_any (v:Value) (l:List Pf) (w:World) (hv:Pfxs w v l):Calls Tryz.prog 70 #[v] w (Tells (.bool (l.all good)) w):=by
 have HV:=hid hv
 obtain ⟨A,c,rfl,hlc,hc⟩:=hv.form
 clear hv
 go_enter Tryz.func70,Tryz.ntmps70
 go_wp2
 go_loopw [3] (fun v3 wx=>∃ j:Nat,j≤l.length∧v3=.int .i64 j∧Hid ((l.take j).all good=true)∧Hid (Below w.heap.size w wx)) (fun v3 _=>l.length - (intOf v3).toNat)
 case atStart=>exact ⟨0,Nat.zero_le _,rfl,hid (by simp),hid (Below.refl _ _)⟩
 case round =>
  obtain ⟨j,hj,rfl,hall,hb⟩:=hrel
  by_cases hlt:j<l.length
  ·obtain ⟨p,hp⟩:∃ p,l[j]?=some p:=⟨_,List.getElem?_eq_getElem hlt⟩
   obtain ⟨b,off,rfl,hbl,k0,k1⟩:=(HV.out).at_ hp
   have c0:=(hb.out.cell (p:=⟨b,off+j*2,none⟩) hbl).trans k0
   have c1:=(hb.out.cell (p:=⟨b,off+j*2+1,none⟩) hbl).trans k1
   have hpa:=((HV.out).2 p (List.mem_of_getElem? hp)).1
   have CG:=hid (fun (W:World)=>refGood_any p.a p.n hpa W)
   have z0:(0:Int)≤(j:Int):=by omega
   have z1:(j:Int)<(l.length:Int):=by omega
   cases hg:good p with
   | true =>
    have HA:=hid (all_take hp)
    rw [show goodB p.a p.n=true from hg] at CG
    have HG:=hid hg
    clear k0 k1 hp hg hpa hbl
    go_wp2_with (go_at_call 119;refine (CG.out _).mono ?_;rintro e w1 ⟨rfl,hb1⟩;have HB1:=hid (hb.out.trans (hb1.mono hb.out.size));clear hb1)
    go_roundw
    case rel=>exact ⟨j+1,hlt,by go_num,hid (by rw [HA.out,hall.out,HG.out];rfl),HB1⟩
    case measure=>simp [intOf];omega
   | false =>
    have HA:=hid (all_bad hp hg)
    rw [show goodB p.a p.n=false from hg] at CG
    clear k0 k1 hp hg hpa hbl
    go_wp2_with (go_at_call 119;refine (CG.out _).mono ?_;rintro e w1 ⟨rfl,hb1⟩;have HB1:=hid (hb.out.trans (hb1.mono hb.out.size));clear hb1)
    go_ret
    exact ⟨by rw [HA.out];rfl,HB1.out⟩
  ·have HJ:=hid (show j=l.length by omega)
   have z1:decide ((j:Int)<(l.length:Int))=false:=decide_eq_false (by omega)
   go_wp2
   go_ret
   have ha:=hall.out
   rw [HJ.out,List.take_length] at ha
   exact ⟨by rw [ha];rfl,hb.out⟩
end PR
namespace PR
open Go.RowKit Mem Pfx Oct
def span (n:Nat):Nat:=(n+7) / 8
theorem span_le {n:Nat} (h:n≤32):span n≤4:=by unfold span;omega
def fill (r:List Nat) (i:Nat):List Nat:=r.take i ++ List.replicate (4 - i) 0
def elemOf (num:List Nat→Nat) (n:Nat) (r:List Nat):Pf:=⟨cutN (num (fill r (span n))) n,n⟩
def dec (num:List Nat→Nat):List Nat→Option (List Pf)
 | []=>some []
 | n :: r=>if 32<n∨r.length<span n then none else (dec num (r.drop (span n))).map (elemOf num n r :: ·)
termination_by l=>l.length
decreasing_by simp [List.length_drop];omega
theorem dec_nil (num:List Nat→Nat):dec num []=some []:=by rw [dec]
theorem dec_bad (num:List Nat→Nat) {n:Nat} {r:List Nat} (h:32<n∨r.length<span n):dec num (n :: r)=none:=by rw [dec,if_pos h]
theorem dec_ok (num:List Nat→Nat) {n:Nat} {r:List Nat} (h1:n≤32) (h2:span n≤r.length):dec num (n :: r)=(dec num (r.drop (span n))).map (elemOf num n r :: ·):=by rw [dec,if_neg (by omega)]
def Left (num:List Nat→Nat) (b:List Nat) (out:List Pf) (rest:List Nat):Prop:=dec num b=(dec num rest).map (out ++ ·)
theorem left_start (num:List Nat→Nat) (b:List Nat):Left num b [] b:=by
 unfold Left
 cases dec num b <;> simp
theorem left_next {num:List Nat→Nat} {b r:List Nat} {out:List Pf} {n:Nat} (h:Left num b out (n :: r)) (h1:n≤32) (h2:span n≤r.length):Left num b (out ++ [elemOf num n r]) (r.drop (span n)):=by
 unfold Left at h ⊢
 rw [h,dec_ok num h1 h2]
 cases dec num (r.drop (span n)) <;> simp
theorem left_bad {num:List Nat→Nat} {b r:List Nat} {out:List Pf} {n:Nat} (h:Left num b out (n :: r)) (h1:32<n∨r.length<span n):dec num b=none:=by
 unfold Left at h
 rw [h,dec_bad num h1];rfl
theorem left_done {num:List Nat→Nat} {b:List Nat} {out:List Pf} (h:Left num b out []):dec num b=some out:=by
 unfold Left at h
 rw [h,dec_nil];simp
end PR
namespace PR
open Go.RowKit Mem Pfx Oct
theorem size_zero {n:Nat} (h:n≤32):sizeN ⟨0,(n:Int)⟩=1+span n:=by
 unfold sizeN good
 rw [goodB_in h,if_pos (by simp [cutN])]
 rfl
theorem size_big {n:Nat} (h:32<n):sizeN ⟨0,(n:Int)⟩=0:=by
 unfold sizeN good
 rw [goodB_no (fitsB_no (.inr (by show (32:Int)<(n:Int);omega)))];rfl
theorem own_one2 {w:World} (x y:Value) (t:TypeId):Row (w.alloc (.cells #[x,y] t)) 2 (.slice (some ⟨w.heap.size,0,none⟩) 1 1) 1 [x,y] :=
 Row.of_own (base:=0) (e:=t) ⟨rfl,.inr ⟨w.heap.size,1,#[x,y],rfl,Nat.zero_le _,heap_alloc_new _ _,Nat.le_refl _,by decide,rfl,rfl⟩⟩
end PR
namespace PR
open Go.RowKit Mem Pfx Oct
theorem size_any (p:Pf) (w:World) (ha:p.a<4294967296):Calls Tryz.prog 132 #[pV p] w (Tells (.int .i64 (sizeN p)) w):=by
 obtain ⟨a,n⟩:=p
 unfold pV
 dsimp only at ha ⊢
 have hb:=below_new w (.cells #[.int .u32 (a:Int),.int .i64 n] 67)
 obtain ⟨c0,c1⟩:=cells_two w (.int .u32 (a:Int)) (.int .i64 n) 67
 have CG:=hid (fun (W:World)=>good_any a n ha W)
 have hlt:w.heap.size<(w.alloc (.cells #[.int .u32 (a:Int),.int .i64 n] 67)).heap.size:=by simp
 have HS:=hid (show sizeN ⟨a,n⟩=if goodB a n then 1+(n.toNat+7) / 8 else 0 from rfl)
 by_cases hg:goodB a n=true
 ·obtain ⟨h0,h1⟩:=goodB_len hg
  obtain ⟨k,rfl⟩:=Int.eq_ofNat_of_zero_le h0
  have hk:(k:Int)≤32:=by omega
  have e:sizeN ⟨a,(k:Int)⟩=1+(k+7) / 8:=by rw [HS.out,if_pos hg];simp
  rw [e]
  rw [hg] at CG
  have HB:=hid hb
  have z0:(0:Int)≤(k:Int):=by omega
  clear hg h0 h1 e HS hb
  go_enter Tryz.func132,Tryz.ntmps132
  go_wp2_with (go_at_call 110;refine (CG.out _).mono ?_;rintro e w1 ⟨rfl,hb1⟩;have c2:=(hb1.cell (p:=⟨w.heap.size,1,none⟩) hlt).trans c1;have HB1:=hid (HB.out.trans (hb1.mono HB.out.size));clear hb1 c0 c1 hlt)
  go_ret
  refine ⟨?_,HB1.out⟩
  congr 2
  go_num
 ·have e:sizeN ⟨a,n⟩=0:=by rw [HS.out,if_neg hg]
  rw [e]
  have hf:goodB a n=false:=by simpa using hg
  rw [hf] at CG
  have HB:=hid hb
  clear hg hf e HS hb
  go_enter Tryz.func132,Tryz.ntmps132
  go_wp2_with (go_at_call 110;refine (CG.out _).mono ?_;rintro e w1 ⟨rfl,hb1⟩;have HB1:=hid (HB.out.trans (hb1.mono HB.out.size));clear hb1)
  go_ret
  exact ⟨rfl,HB1.out⟩
theorem place_any (i:Nat) (hi:i≤3) (w:World):Calls Tryz.prog 133 #[.int .i64 i] w (fun e w'=>e=.returned (.int .i64 ((24 - 8*i:Nat):Int))∧w'=w):=by
 have z0:(0:Int)≤(i:Int):=by omega
 have z1:(i:Int)≤3:=by omega
 have e:((24 - 8*i:Nat):Int)=24 - (i:Int)*8:=by omega
 rw [e]
 clear e hi
 go_enter Tryz.func133,Tryz.ntmps133
 go_wp2
 go_ret
 exact ⟨rfl,rfl⟩
end PR
namespace PR
open Go.RowKit Mem Pfx Oct
end PR
namespace PR
open Go.RowKit Mem Pfx Oct
section
variable {W W':World} {g cap:Nat} {d l:List Pf}
end
end PR
namespace PR
open Go.RowKit Mem Pfx Oct
theorem own_nil2 (w:World) (base:Nat):w.ownsRow base 67 2 (.slice none 0 0) 0 (pcells []):=⟨rfl,.inl ⟨rfl,rfl⟩⟩
theorem pclone_any (v:Value) (l:List Pf) (w:World) (hv:Pfxs w v l) (hl:l.length≤100000):Calls Tryz.prog 35 #[v] w (GivesP l w):=by
 obtain ⟨i0,E0⟩:=elemP
 obtain ⟨A,c,rfl,hlc,hc⟩:=hv.form
 have HV:=hid hv
 have h0:(w.alloc (.cells #[] 67)).ownsRow w.heap.size 67 2 (.slice (some ⟨w.heap.size,0,none⟩) 0 0) 0 (pcells []):=own_blk2 (Nat.le_refl _) (heap_alloc_new _ _)
 have H0:=hid h0
 have HR:=hid ((hv.keep ((Below.refl _ w).alloc (Nat.le_refl _) (.cells #[] 67))).1)
 have HB:=hid (Below.refl w.heap.size w)
 have q8:∀ (W:World) (a:Option Addr) (n c n' c':Nat),(binOp .eql 25 (.slice a n c) (.slice none n' c')).run Tryz.prog W=.ok (.bool a.isNone) W:=fun W a n c n' c'=>Lib.run_eql_slice_nil W _ _ a n c n' c' Tryz.underlying25
 clear hv h0
 cases A with
 | none =>
  obtain rfl:l=[]:=by
   obtain ⟨⟨_,_,_,e,_,_,hr⟩,_⟩:=HV.out
   injection e with e1 e2 e3
   subst e1
   rcases Nat.eq_zero_or_pos l.length with h | h
   ·exact List.eq_nil_of_length_eq_zero h
   ·obtain ⟨_,_,h0,_⟩:=hr h
    cases h0
  go_enter Tryz.func35,Tryz.ntmps35
  go_wp2
  go_ret
  exact ⟨none,0,rfl,own_nil2 _ _,HB.out⟩
 | some ad =>
  go_enter Tryz.func35,Tryz.ntmps35
  go_wp2_with (at_builtin;refine wpList_append_row rfl (.tmp 5) (.tmp 6) rfl E0 w.heap.size _ 0 _ rfl H0.out _ l.length (pcells l) rfl HR.out (ones_p _) (by unfold maxLen;omega) (by omega) (by simp) (l.length) (Nat.zero_add _) ?_;intro A1 c1 w1 hown1 hg1 hat1 hb1;have HO:=hid hown1;have HB1:=hid hb1;clear hown1 hg1 hat1 hb1)
  go_ret
  refine ⟨_,_,rfl,HO.out,?_⟩
  exact ((Below.refl _ w).alloc (Nat.le_refl _) _).trans HB1.out
end PR
end Go.Proofs.YtjfmompgkkdliaaGreatDoor
