/- Part of the proof. -/
import Derived.Test.YtjfmompgkkdliaaGreatDoorH02
import Derived.Test.YtjfmompgkkdliaaGreatDoorH04
import Derived.Test.YtjfmompgkkdliaaGreatDoorH01
open Go.Lib (hid)
set_option maxRecDepth 100000
set_option maxHeartbeats 40000000
namespace Go.Proofs.YtjfmompgkkdliaaGreatDoor
namespace Att
open Go.RowKit Mem Oct Nums
def quadsN (l:List Nat) (n:Nat):List Nat:=(List.range n).map fun k=>val ((l.drop (4*k)).take 4)
def quads (l:List Nat):List Nat:=quadsN l (l.length / 4)
theorem quadsN_len (l:List Nat) (n:Nat):(quadsN l n).length=n:=by simp [quadsN]
theorem quadsN_succ (l:List Nat) (n:Nat):quadsN l (n+1)=quadsN l n ++ [val ((l.drop (4*n)).take 4)]:=by
 unfold quadsN
 rw [List.range_succ,List.map_append];rfl
theorem quads_lt {l:List Nat} (h:Small l) (n:Nat):∀ y∈quadsN l n,y<4294967296:=by
 intro y hy
 obtain ⟨k,_,rfl⟩:=List.mem_map.1 hy
 exact val_lt 4 (h.drop (4*k))
theorem mid8 {w:World} {l:List Nat} {b off c i:Nat} (h:U8s w (.slice (some ⟨b,off,none⟩) l.length c) l) (hi:i+4≤l.length):U8s w (.slice (some ⟨b,off+i,none⟩) 4 (c - i)) ((l.drop i).take 4):=by
 obtain ⟨A,c',e,h1,h2⟩:=h.form
 injection e with e1 e2 e3
 subst e3
 have h3:=h.cut (k:=i) (by omega)
 rw [if_neg (by omega)] at h3
 have h4:U8s w (.slice (some ⟨b,off+i,none⟩) (l.length - i) (c - i)) (l.drop i):=by
  by_cases h0:i=0
  ·subst h0;simpa [Addr.add] using h3
  ·simpa [Addr.add,h0] using h3
 exact h4.prefix_ (k:=4) (d:=c - i) (by rw [List.length_drop];omega) (by omega) (by unfold maxLen;omega)
theorem nums8_any (v:Value) (l:List Nat) (w:World) (hv:U8s w v l) (hl:l.length≤4000) :
  Calls Tryz.prog 165 #[v] w (Gives32 22 (quads l) w):=by
 obtain ⟨ie,E⟩:=elem32
 obtain ⟨A,c,rfl,hlc,hc⟩:=hv.form
 have HU:=hid hv
 have CN:=hid (fun (v:Value) (i:Nat) (W:World) (h:U8s W v ((l.drop i).take 4))=>num_any v _ W h (List.length_take_le _ _))
 have HQ:=hid (quadsN_succ l)
 clear hv
 have h0:(w.alloc (.cells #[] 22)).ownsRow w.heap.size 22 1 (.slice (some ⟨w.heap.size,0,none⟩) 0 0) 0 []:=own_blk (Nat.le_refl _) (heap_alloc_new _ _)
 go_enter Tryz.func165,Tryz.ntmps165
 go_wp2
 go_loopw [3,4] (fun v3 v4 wr=>∃ n:Nat,4*n≤l.length∧v4=.int .i64 (4*n:Nat)∧wr.ownsRow w.heap.size 22 1 v3 n ((quadsN l n).map fun n:Nat=>Value.int .u32 n)∧Below w.heap.size w wr) (fun _ v4 _=>l.length - (intOf v4).toNat)
 case atStart=>exact ⟨0,by omega,rfl,h0,(Below.refl _ _).alloc (Nat.le_refl _) _⟩
 case round =>
  obtain ⟨n,hn,rfl,hown,hbw⟩:=hrel
  have wa:IntKind.i64.wrap (((4*n:Nat):Int)+4)=((4*n+4:Nat):Int):=by rw [IntKind.wrap_i64];omega
  by_cases hlt:4*n+4≤l.length
  ·obtain ⟨b,off,x,rfl,hbl,-,-,-⟩:=HU.out.at_ (show 4*n<l.length by omega)
   have M:=hid (mid8 (HU.out.keep hbw) hlt)
   have CNX:=hid (CN.out _ (4*n) wr M.out)
   have HE:=hid (HQ.out n)
   have hx32:=hid (quads_lt HU.out.2 (n+1))
   have z0:(0:Int)≤((4*n:Nat):Int):=by omega
   have z1:((4*n+4:Nat):Int)≤(l.length:Int):=by omega
   have z2:((4*n:Nat):Int)≤((4*n+4:Nat):Int):=by omega
   have z3:((4*n+4:Nat):Int)≤(c:Int):=by omega
   have hlen:n+1≤1000:=by omega
   clear hn
   generalize hR:val ((l.drop (4*n)).take 4)=r at CNX HE
   clear hR
   go_wp2_with (first | (go_at_call 95;refine (CNX.out).mono ?_;rintro e w1 ⟨rfl,hb0⟩) | (at_builtin;refine wpList_append_row rfl (.tmp 13) (.tmp 20) rfl E w.heap.size _ n _ rfl (own_keep hown (hb0.alloc hb0.size _)) _ 1 [.int .u32 r] rfl (Row.one _ _ _) (one_u32 _) (by unfold maxLen;omega) (by omega) (Nat.le_trans hbw.size (hb0.alloc hb0.size _).size) (n+1) rfl ?_;intro A1 c1 w2 hown1 hg1 hat1 hb1))
   go_roundw
   case rel=>exact ⟨n+1,by omega,by go_num,by rw [HE.out];simpa using hown1,(hbw.trans ((hb0.alloc hb0.size _).mono hbw.size)).trans hb1⟩
   case measure=>simp [intOf];omega
  ·have z1:decide (((4*n+4:Nat):Int)≤(l.length:Int))=false:=decide_eq_false (by omega)
   have HN:=hid (show quads l=quadsN l n by unfold quads;rw [show l.length / 4=n by omega])
   go_wp2
   go_ret
   refine ⟨_,rfl,?_,hbw⟩
   rw [HN.out,quadsN_len]
   exact hown
end Att
end Go.Proofs.YtjfmompgkkdliaaGreatDoor
