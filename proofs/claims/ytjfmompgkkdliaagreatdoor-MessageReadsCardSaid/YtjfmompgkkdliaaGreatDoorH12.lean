/- Part of the proof. -/
import Derived.Test.YtjfmompgkkdliaaGreatDoorH03
import Derived.Lib.MakeNoZero
import Derived.Laws.CopyOwn
import Derived.Laws.Externs
import Derived.Deep.RegionHeld3
import Derived.KernelRfl
import Derived.Test.YtjfmompgkkdliaaGreatDoorH04
open Go.Lib (hid)
set_option maxRecDepth 100000
set_option maxHeartbeats 40000000
namespace Go.Proofs.YtjfmompgkkdliaaGreatDoor
namespace Frm
open Go.RowKit Mem Oct
open Go.Lib (hid)
def Reads8 (l:List Nat) (w:World) (e:Ending) (w':World):Prop:=∃ A c,e=.returned (.slice A l.length c)∧U8s w' (.slice A l.length c) l∧Below w.heap.size w w'
def ffs (cs:List Value) (m:Nat):List Value:=List.replicate m (Value.int .u8 255) ++ cs.drop m
theorem ffs_len {cs:List Value} {m:Nat} (h:m≤cs.length):(ffs cs m).length=cs.length:=by simp [ffs];omega
theorem ffs_more {cs:List Value} {m:Nat} (j:Nat):splice (ffs cs m) m (List.replicate j (Value.int .u8 255))=ffs cs (m+j):=by
 unfold splice ffs
 rw [List.length_replicate,List.take_left' (by simp),List.drop_append,List.length_replicate,List.drop_of_length_le (by simp),List.nil_append,List.drop_drop,← List.append_assoc,List.replicate_append_replicate]
 congr 2
 omega
theorem ffs_cell {cs:List Value} {m:Nat} {w:World} {g:Nat} {t:TypeId} (h:w.heap[g]?=some (.cells (ffs cs m).toArray t (0,0))) (j:Nat) (hj:j<m):w.cell? ⟨g,j,none⟩=some (.int .u8 255):=by
 have h3:(ffs cs m)[j]?=some (.int .u8 255):=by
  unfold ffs
  rw [List.getElem?_append_left (by simpa using hj),List.getElem?_replicate,if_pos hj]
 simp [World.cell?,h,h3]
theorem mul64_at (w:World):Calls Tryz.prog 169 #[.int .u64 1,.int .u64 16] w fun e w'=>e=.returned (.tuple #[.int .u64 0,.int .u64 16])∧w=w':=by
 have b1:bits .and .u64 1 4294967295=1:=by decide
 have b2:bits .and .u64 16 4294967295=16:=by decide
 have b3:bits .and .u64 0 4294967295=0:=by decide
 go_enter Tryz.func169,Tryz.ntmps169
 go_wp2
 go_ret2
 exact ⟨rfl,rfl⟩
theorem mul_at (w:World):Calls Tryz.prog 146 #[.int .u64 1,.int .u64 16] w fun e w'=>e=.returned (.tuple #[.int .u64 0,.int .u64 16])∧w=w':=by
 have C:=hid mul64_at
 go_enter Tryz.func146,Tryz.ntmps146
 go_wp2_with (go_at_call 169;refine (C.out _).mono ?_;rintro e w' ⟨rfl,rfl⟩)
 go_ret2
 exact ⟨rfl,rfl⟩
theorem repeat_ff (v : Value) (w : World) (hv : U8s w v [255]) : Calls Tryz.prog 109 #[v, .int .i64 16] w (Reads8 (List.replicate 16 255) w) := by
  obtain ⟨i0,E0⟩:=elem8
  obtain ⟨A,c,rfl,hlc,hc⟩:=hv.form
  obtain ⟨b,off,x,rfl,hb,hx,hx2,hcell⟩:=hv.at_ (show 0<[255].length by decide)
  obtain rfl:255=x:=by simpa using hx
  have CM:=hid mul_at
  obtain ⟨cs,hrun,hle,-⟩:∃ cs:Array Value,(Extern.BytealgMakeNoZero.makeNoZero #[3] #[32] #[.int .i64 16]).run Tryz.prog w=.ok (.slice (some ⟨w.heap.size,0,none⟩) 16 cs.size) ((w.alloc (.cells cs 5)).drewN 2)∧16≤cs.size∧(16≤maxLen→cs.size≤maxLen):=Lib.run_makeNoZero (P:=Tryz.prog) w #[3] 32 5 Tryz.underlying32 16 (by decide)
  have hcall : (callFunc 147 #[.int .i64 16]).run Tryz.prog w = .ok (.value (.slice (some ⟨w.heap.size, 0, none⟩) 16 cs.size)) ((w.alloc (.cells cs 5)).drewN 2) := by
    rw [run_callFunc_extern Tryz.func147 (by kernel_rfl) (by kernel_rfl) (by kernel_rfl) (e:=Extern.BytealgMakeNoZero.makeNoZero #[3] #[32]) (by kernel_rfl),hrun]
    rfl
  clear hrun
  have i1:(16:Int)≤(cs.size:Int):=by omega
  have hal:Below w.heap.size w ((w.alloc (.cells cs 5)).drewN 2):=((Below.refl _ w).alloc (Nat.le_refl _) _).drew.drew
  have hg0:((w.alloc (.cells cs 5)).drewN 2).heap[w.heap.size]?=some (.cells (ffs cs.toList 0).toArray 5 (0,0)):=(heap_alloc_new _ _).trans (by simp [ffs])
  have hc2:((w.alloc (.cells cs 5)).drewN 2).cell? ⟨b,off,none⟩=some (.int .u8 255):=(hal.cell (p:=⟨b,off,none⟩) hb).trans hcell
  have HG0:=hid hg0
  have HC2:=hid hc2
  have HB0:=hid hal
  have HLE:=hid (show 16≤cs.toList.length from by simpa using hle)
  have hsz:(Tryz.prog.info? 5).map (·.size)=some 1:=by rw [E0.hi,Option.map_some,E0.hsize]
  have HSZ:=hid hsz
  clear hg0 hc2 hal hsz hcell hx hx2 hv hle
  go_enter Tryz.func109,Tryz.ntmps109
  go_wp2_with (first
    | (go_at_call 146;refine (CM.out _).mono ?_;rintro e w' ⟨rfl,rfl⟩)
    | (refine wpList_copy_splice rfl (.tmp 58) (.tmp 59) 32 32 rfl 5 Tryz.underlying32 HSZ.out (some ⟨w.heap.size, 0, none⟩) (some ⟨b, off, none⟩) 16 16 1 c rfl rfl w.heap.size 0 (ffs cs.toList 0) 5 HG0.out [.int .u8 255] rfl (fun _ => ⟨rfl, _, rfl, fun j u hj => ?_⟩) ?_ ?_ w.heap.size w HB0.out (Nat.le_refl _) ?_
       · match j, hj with
         | 0,hj=>injection hj with hj;subst hj;exact HC2.out
       · rw [ffs_len (Nat.zero_le _)];have:=HLE.out;simp;omega
       · intro u hu
         rw [List.mem_singleton.1 hu];rfl
       intro w2 hg2 hb2
       rw [show [Value.int .u8 255]=List.replicate 1 (Value.int .u8 255) from rfl,ffs_more 1,Nat.zero_add] at hg2))
  go_loopw [10] (fun v10 wr=>∃ m:Nat,0<m∧m≤16∧v10=.int .i64 m∧Hid (wr.heap[w.heap.size]?=some (.cells (ffs cs.toList m).toArray 5 (0,0)))∧Hid (Below w.heap.size w wr)) (fun v10 _=>16 - (intOf v10).toNat)
  case atStart=>exact ⟨1,by decide,by decide,rfl,hg2,hid hb2⟩
  case round =>
    obtain ⟨m,hm0,hm,rfl,hg,hb⟩:=hrel
    by_cases hlt:m<16
    · obtain ⟨j, hj⟩ : ∃ j, j = Nat.min m (16 - m) := ⟨_, rfl⟩
      have hj1:j≤m:=hj ▸ Nat.min_le_left _ _
      have hj2:j≤16 - m:=hj ▸ Nat.min_le_right _ _
      have hj3 : 0 < j := by
        have:Nat.min m (16 - m)=min m (16 - m):=rfl
        omega
      have HJ:=hid hj
      clear hj
      have z0:(0:Int)≤(m:Int):=by omega
      have z1:(m:Int)≤16:=by omega
      have z2:(m:Int)<16:=by omega
      have z3:¬ 16=m:=by omega
      have z4:((m:Int)≤8192):=by omega
      have hwr:IntKind.i64.wrap ((m:Int)+(j:Int))=((m+j:Nat):Int):=by rw [IntKind.wrap_i64];omega
      go_wp2
      go_region_held3 (fun _ => True) (trivial) (first
        | (refine step_copy_splice rfl (.tmp 70) (.tmp 73) 32 32 rfl 5 Tryz.underlying32 HSZ.out (some ⟨w.heap.size, m, none⟩) (some ⟨w.heap.size, 0, none⟩) (16 - m) (16 - m) m 16 ?_ ?_ w.heap.size m (ffs cs.toList m) 5 hg.out (List.replicate j (.int .u8 255)) ?_ ?_ ?_ ?_ w.heap.size w hb.out.drew (Nat.le_refl _) ?_
           · first | rfl | simp [z3]
           · rfl
           · rw [List.length_replicate];exact HJ.out
           · intro _
             refine ⟨rfl,_,rfl,fun i u hi=>?_⟩
             rw [List.getElem?_replicate] at hi
             split at hi
             · injection hi with hi
               subst hi
               rw [show (⟨w.heap.size,0,none⟩:Addr).add i=⟨w.heap.size,i,none⟩ by by_cases h:i=0 <;> simp [Addr.add,h]]
               exact ffs_cell (show wr.drew.heap[w.heap.size]?=_ from hg.out) i (by omega)
             · cases hi
           · rw [List.length_replicate,ffs_len (Nat.le_trans hm HLE.out)];have:=HLE.out;omega
           · intro u hu
             rw [(List.mem_replicate.1 hu).2];rfl
           intro w3 hg3 hb3
           rw [ffs_more j] at hg3
           rw [List.length_replicate]))
      all_goals go_wp2
      all_goals go_roundw
      case rel=>exact ⟨m+j,by omega,by omega,rfl,hg3,hid hb3⟩
      case measure=>simp [intOf];omega
    · obtain rfl : m = 16 := by omega
      go_wp2
      go_ret
      have hs:w.heap.size<wr.heap.size:=(Array.getElem?_eq_some_iff.1 hg.out).1
      refine ⟨some ⟨w.heap.size,0,none⟩,16,rfl,⟨⟨by rw [cells8_len];rfl,some ⟨w.heap.size,0,none⟩,16,by rw [List.length_replicate],by simp,by unfold maxLen;omega,fun _=>⟨w.heap.size,0,rfl,hs,fun i x hx=>?_⟩⟩,fun y hy=>by rw [(List.mem_replicate.1 hy).2];decide⟩,hb.out⟩
      unfold cells8 at hx
      rw [List.map_replicate,List.getElem?_replicate] at hx
      split at hx
      · injection hx with hx
        subst hx
        rw [Nat.zero_add]
        exact ffs_cell hg.out i (by omega)
      · cases hx
theorem marker_any (w:World):Calls Tryz.prog 60 #[] w (Reads8 (List.replicate 16 255) w):=by
 have hal:Below w.heap.size w (w.alloc (.cells #[.int .u8 255] 5)):=(Below.refl _ w).alloc (Nat.le_refl _) _
 have HA:=hid hal
 have CR:=hid (fun v W (h:U8s W v [255])=>repeat_ff v W h)
 have HL:=hid (show U8s (w.alloc (.cells #[.int .u8 255] 5)) (.slice (some ⟨w.heap.size,0,none⟩) 1 1) [255] from U8s.of_own (base:=0) (l:=[255]) ⟨rfl,.inr ⟨w.heap.size,1,#[.int .u8 255],rfl,Nat.zero_le _,heap_alloc_new _ _,Nat.le_refl _,by decide,rfl,rfl⟩⟩ (by intro y hy;simp at hy;omega))
 clear hal
 go_enter Tryz.func60,Tryz.ntmps60
 go_wp2_with (have h:=HL.out;go_at_call 109;refine (CR.out _ _ h).mono ?_;rintro e x ⟨A,c,rfl,hu,hb⟩;have U:=hid hu;have B:=hid (HA.out.trans (hb.mono HA.out.size));clear hu hb h)
 go_ret
 exact ⟨A,c,rfl,U.out,B.out⟩
end Frm
namespace Frm
open Go.RowKit Mem Oct Att
open Go.Lib (hid)
theorem big_two (n:Nat):[lo8 ((n:Int) / 256),lo8 (n:Int)]=big n 2:=by
 have h:big n 2=[n / 256 % 256,n % 256]:=by simp [big]
 rw [h]
 unfold lo8
 congr 1 <;> first | omega | (congr 1;omega)
def WrSt (w:World) (l:List Nat) (W:World):Prop:=∃ F,Wr W w.heap.size (.pointer (some ⟨w.heap.size,0,none⟩)) l F∧Below w.heap.size w W
section
variable {w W W2:World} {l l2:List Nat} {x:Value} {e:Ending}
theorem WrSt.low (h:WrSt w l W):Below w.heap.size w W:=let ⟨_,_,h⟩:=h;h
theorem WrSt.keep (h:WrSt w l W) (hb:Below W.heap.size W W2):WrSt w l W2:=let ⟨F,h1,h2⟩:=h;⟨F,h1.below hb,h2.trans (hb.mono h2.size)⟩
theorem WrSt.add {F:Nat→Prop} (h:Wr W w.heap.size (.pointer (some ⟨w.heap.size,0,none⟩)) l F) (h2:Below w.heap.size w W) (k:AddF w.heap.size (.pointer (some ⟨w.heap.size,0,none⟩)) x l2 F W e W2):e=.returned x∧WrSt w l2 W2:=by
 obtain ⟨F2,h3,h4,h5,-⟩:=k
 exact ⟨h3,F2,h4,h2.trans (h5.below (fun k hk=>(h.lt k hk).1) h2.size)⟩
end
theorem wr_start (w:World):WrSt w [] (w.alloc (.cells #[.slice none 0 0] 97)) :=
 ⟨fun k=>k=w.heap.size∨(Value.slice none 0 0).ownBlock=some k,⟨w.heap.size,.slice none 0 0,rfl,Nat.le_refl _,heap_alloc_new _ _,World.ownsRow_nil _ _ _ _,small_nil,by simp [Value.ownBlock],rfl⟩,(Below.refl _ _).alloc (Nat.le_refl _) _⟩
theorem wr_put {w W:World} {l m:List Nat} {x:Value} (h:WrSt w l W) (hx:U8s W x m) (hl:l.length+m.length≤1000000):Calls Tryz.prog 59 #[.pointer (some ⟨w.heap.size,0,none⟩),x] W (fun e w'=>e=.returned (.pointer (some ⟨w.heap.size,0,none⟩))∧WrSt w (l ++ m) w') :=
 let ⟨_,h1,h2⟩:=h;(put_any _ x _ l m _ W h1 hx hl h2.size).mono fun _ _ k=>WrSt.add h1 h2 k
theorem wr_u16 {w W:World} {l:List Nat} (n:Nat) (h:WrSt w l W) (hl:l.length≤900000):Calls Tryz.prog 61 #[.pointer (some ⟨w.heap.size,0,none⟩),.int .i64 n] W (fun e w'=>e=.returned (.pointer (some ⟨w.heap.size,0,none⟩))∧WrSt w (l ++ big n 2) w') :=
 let ⟨_,h1,h2⟩:=h;(w16_put _ _ l _ n W h1 hl h2.size).mono fun _ _ k=>WrSt.add h1 h2 (by rw [← big_two];exact k)
theorem wr_u8 {w W:World} {l:List Nat} (n:Int) (h:WrSt w l W) (hl:l.length≤900000):Calls Tryz.prog 62 #[.pointer (some ⟨w.heap.size,0,none⟩),.int .i64 n] W (fun e w'=>e=.returned (.pointer (some ⟨w.heap.size,0,none⟩))∧WrSt w (l ++ [lo8 n]) w') :=
 let ⟨_,h1,h2⟩:=h;(w8_put _ _ l _ n W h1 hl h2.size).mono fun _ _ k=>WrSt.add h1 h2 k
theorem wr_bytes {w W:World} {l:List Nat} (h:WrSt w l W) (hl:l.length≤1000000):Calls Tryz.prog 63 #[.pointer (some ⟨w.heap.size,0,none⟩)] W (fun e w'=>∃ A c,e=.returned (.slice A l.length c)∧U8s w' (.slice A l.length c) l∧Below w.heap.size w w') :=
 let ⟨_,h1,h2⟩:=h;(wbytes_any _ _ l _ W h1 hl).mono fun _ _ ⟨A,c,he,ho,hb⟩=>⟨A,c,he,U8s.of_own ho (let ⟨_,_,_,_,_,_,h5,_⟩:=h1;h5),h2.trans (hb.mono h2.size)⟩
theorem wrap_any (k:Int) (l:List Nat) (hl:l.length≤5000):∃ EB er,WrapW k l EB er∧∀ v W,U8s W v l→Calls Tryz.prog 26 #[.int .i64 k,v] W (WrapF EB er W):=by
 by_cases hk:1≤k∧k≤4
 ·by_cases hlen:4077<l.length
  ·refine ⟨[],6,.inr (.inl ⟨hk,hlen,rfl,rfl⟩),fun v w hv=>?_⟩
   obtain ⟨A0,c,rfl,-,-⟩:=hv.form
   have CV:=hid (fun W=>show Calls Tryz.prog 58 #[.int .i64 k] W (Tells (.bool true) W) from by have h:=valid_any k W;rw [decide_eq_true hk] at h;exact h)
   have z1:19+(l.length:Int) > 4096:=by omega
   clear hk hlen hv
   go_enter Tryz.func26,Tryz.ntmps26
   go_wp2_with (go_at_call 58;refine (CV.out _).mono ?_;rintro e x ⟨rfl,hb⟩;have HB:=hid hb;clear hb)
   go_ret2
   exact ⟨none,0,rfl,U8s.nil _,HB.out⟩
  ·refine ⟨_,0,.inr (.inr ⟨hk,by omega,rfl,rfl⟩),fun v w hv=>?_⟩
   obtain ⟨A0,c,rfl,-,-⟩:=hv.form
   have HV:=hid hv
   have CV:=hid (fun W=>show Calls Tryz.prog 58 #[.int .i64 k] W (Tells (.bool true) W) from by have h:=valid_any k W;rw [decide_eq_true hk] at h;exact h)
   have CM:=hid marker_any
   have z1:19+(l.length:Int)≤4096:=by omega
   have hn:((19+l.length:Nat):Int)=19+(l.length:Int):=by omega
   have CP:=hid (fun (w W:World) (h:WrSt w [] W) x (hx:U8s W x (List.replicate 16 255))=>show Calls _ _ _ _ (fun e w'=>e=.returned (.pointer (some ⟨w.heap.size,0,none⟩))∧WrSt w (List.replicate 16 255) w') from wr_put h hx (by decide))
   have CN:=hid (fun (w W:World) (h:WrSt w (List.replicate 16 255) W)=>wr_u16 (19+l.length) h (by decide))
   have CU:=hid (fun (w W:World) (h:WrSt w (List.replicate 16 255 ++ big (19+l.length) 2) W)=>wr_u8 k h (by rw [List.length_append,big_len];simp))
   have CB:=hid (fun (w W:World) (h:WrSt w (List.replicate 16 255 ++ big (19+l.length) 2 ++ [lo8 k]) W) x (hx:U8s W x l)=>show Calls _ _ _ _ (fun e w'=>e=.returned (.pointer (some ⟨w.heap.size,0,none⟩))∧WrSt w (wrapB k l) w') from wr_put h hx (by rw [List.length_append,List.length_append,big_len];simp;omega))
   have CY:=hid (fun (w W:World) (h:WrSt w (wrapB k l) W)=>wr_bytes h (by rw [wrapB_len];omega))
   rw [hn] at CN
   generalize wrapB k l=R5 at CB CY ⊢
   generalize List.replicate 16 255 ++ big (19+l.length) 2 ++ [lo8 k]=R4 at CU CB
   generalize List.replicate 16 255 ++ big (19+l.length) 2=R3 at CN CU
   clear hk hlen hv hn
   go_enter Tryz.func26,Tryz.ntmps26
   go_wp2_with (first
    | (go_at_call 58;refine (CV.out _).mono ?_;rintro e x ⟨rfl,hb⟩;have HB:=hid hb;have V0:=hid ((HV.out.keep hb));have S0:=hid (wr_start x);clear hb)
    | (have h:=S0.out;go_at_call 60;refine (CM.out _).mono ?_;rintro e x1 ⟨A1,c1,rfl,hu,hb⟩;have S1:=hid (h.keep hb);have U1:=hid hu;clear hu hb h S0)
    | (have h:=S1.out;go_at_call 59;refine (CP.out _ _ h _ U1.out).mono ?_;rintro e x2 ⟨rfl,hs⟩;have S2:=hid hs;clear h hs S1 U1)
    | (have h:=S2.out;go_at_call 61;refine (CN.out _ _ h).mono ?_;rintro e x3 ⟨rfl,hs⟩;have S3:=hid hs;clear h hs S2)
    | (have h:=S3.out;go_at_call 62;refine (CU.out _ _ h).mono ?_;rintro e x4 ⟨rfl,hs⟩;have S4:=hid hs;clear h hs S3)
    | (have h:=S4.out;go_at_call 59;refine (CB.out _ _ h _ (V0.out.keep h.low)).mono ?_;rintro e x5 ⟨rfl,hs⟩;have S5:=hid hs;clear h hs S4)
    | (have h:=S5.out;go_at_call 63;refine (CY.out _ _ h).mono ?_;rintro e x6 ⟨A6,c6,rfl,hu,hb⟩;have U6:=hid hu;have B6:=hid (HB.out.trans (hb.mono HB.out.size));clear h hu hb S5))
   go_ret2
   exact ⟨A6,c6,rfl,U6.out,B6.out⟩
 ·refine ⟨[],1,.inl ⟨by omega,rfl,rfl⟩,fun v w hv=>?_⟩
  obtain ⟨A0,c,rfl,-,-⟩:=hv.form
  have CV:=hid (fun W=>show Calls Tryz.prog 58 #[.int .i64 k] W (Tells (.bool false) W) from by have h:=valid_any k W;rw [decide_eq_false hk] at h;exact h)
  clear hk hv
  go_enter Tryz.func26,Tryz.ntmps26
  go_wp2_with (go_at_call 58;refine (CV.out _).mono ?_;rintro e x ⟨rfl,hb⟩;have HB:=hid hb;clear hb)
  go_ret2
  exact ⟨none,0,rfl,U8s.nil _,HB.out⟩
end Frm
end Go.Proofs.YtjfmompgkkdliaaGreatDoor
