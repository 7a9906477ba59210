/- Part of the proof. -/
import Derived.Test.YtjfmompgkkdliaaGreatDoorH26
import Derived.Test.YtjfmompgkkdliaaGreatDoorH14
import Derived.Sort.Walk7a
import Derived.Sort.WalkA14
import Derived.Laws.Bits64
import Derived.Sort.LotD1
import Derived.BigRegion
import Derived.Laws.Bits64b
open Go.Lib (hid)
set_option maxRecDepth 100000
set_option maxHeartbeats 40000000
namespace Go.Proofs.YtjfmompgkkdliaaGreatDoor
namespace Srt
open Go.RowKit Go.Sort
def Word (rb X:Nat) (w:World):Prop:=w.cell? ⟨rb,0,none⟩=some (.int .u64 X)∧w.frozen? ⟨rb,0,none⟩=false
def Nexts (rb:Nat) (w:World) (e:Ending) (w':World):Prop:=∃ Y:Nat,e=.returned (.int .u64 Y)∧Y<18446744073709551616∧Word rb Y w'∧Below rb w w'
theorem word_set {w:World} {rb X:Nat} (h:Word rb X w) (Y:Nat):Word rb Y (w.setCell ⟨rb,0,none⟩ (.int .u64 Y)):=by
 obtain ⟨c,e,f,h1,h2⟩:=cells_of_cell? h.1
 refine ⟨?_,?_⟩
 ·rw [setCell_eq,cell?_mapBlock _ _ _ _ h1]
  have:0<c.size:=by
   rcases Nat.eq_zero_or_pos c.size with h | h
   ·rw [Array.getElem?_eq_none (by omega)] at h2;cases h2
   ·exact h
  rw [Array.getElem?_setIfInBounds_self_of_lt this]
 ·rw [setCell_eq,frozen?_mapBlock];exact h.2
theorem mix_left (X c:Nat) (hX:X<18446744073709551616):∃ A:Nat,A<18446744073709551616∧bits .xor .u64 (X:Int) (IntKind.u64.wrap ((X:Int)*(c:Int)))=(A:Int) :=
 ⟨X ^^^ (X*c % 18446744073709551616),Nat.xor_lt_two_pow (n:=64) (by omega) (by omega),by
  rw [IntKind.wrap_u64,show ((X:Int)*(c:Int) % 18446744073709551616)=((X*c % 18446744073709551616:Nat):Int) by simp,bits_xor_u64_nat _ _ hX (by omega)]⟩
theorem mix_right (X:Nat) (hX:X<18446744073709551616):∃ A:Nat,A<18446744073709551616∧bits .xor .u64 (X:Int) ((X:Int) / 128)=(A:Int) :=
 ⟨X ^^^ (X / 128),Nat.xor_lt_two_pow (n:=64) (by omega) (by omega),by
  rw [show ((X:Int) / 128)=((X / 128:Nat):Int) by omega,bits_xor_u64_nat _ _ hX (by omega)]⟩
theorem next_any (rb X:Nat) (hX:X<18446744073709551616) (w:World) (h:Word rb X w) :
  Calls Tryz.prog 195 #[.pointer (some ⟨rb,0,none⟩)] w (Nexts rb w):=by
 obtain ⟨A,lA,(e1:bits .xor .u64 (X:Int) (IntKind.u64.wrap ((X:Int)*8192))=(A:Int))⟩:=mix_left X 8192 hX
 obtain ⟨B,lB,e2⟩:=mix_right A lA
 obtain ⟨C,lC,(e3:bits .xor .u64 (B:Int) (IntKind.u64.wrap ((B:Int)*131072))=(C:Int))⟩:=mix_left B 131072 lB
 have HW:=hid h
 obtain ⟨hc,hf⟩:=h
 have hss:∀ v v',(w.setCell ⟨rb,0,none⟩ v).setCell ⟨rb,0,none⟩ v'=w.setCell ⟨rb,0,none⟩ v':=setCell_setCell w rb 0
 go_enter Tryz.func195,Tryz.ntmps195
 go_wp2
 go_region
 all_goals go_wp2
 all_goals go_region
 all_goals go_wp2
 all_goals go_region
 all_goals go_wp2
 all_goals go_ret
 all_goals exact ⟨C,rfl,lC,word_set (w:=w) HW.out C,((RowKit.Below.refl rb w).setCell (p:=⟨rb,0,none⟩) (Nat.le_refl _) _).trans (below_drewN rb _ 3)⟩
def Power (n:Nat) (w:World) (e:Ending) (w':World):Prop:=∃ M:Nat,e=.returned (.int .u64 M)∧(1≤M∧M≤8192)∧M≤2*n∧w'=w
theorem power_any (n:Nat) (hn:8≤n) (hn2:n<8192) (w:World):Calls Tryz.prog 194 #[.int .i64 n] w (Power n w):=by
 have hk:=bitsLen_le_iff n
 have h6:=(hk 13).2 (by omega)
 have CB:=hid (fun w=>Tryz.bits_Len (n:Int) w (by omega) (by omega))
 have e:Lib.bitLen (n:Int).toNat=bitsLen n:=by rw [Int.toNat_natCast];exact bitLen_eq _ (by omega)
 rw [e] at CB
 have h3:¬ bitsLen n≤3:=fun h=>by have:=(hk 3).1 h;omega
 have hw:IntKind.u64.wrap (n:Int)=n:=by rw [IntKind.wrap_u64];omega
 have hc:(bitsLen n=4∧8≤n)∨(bitsLen n=5∧16≤n)∨(bitsLen n=6∧32≤n)∨(bitsLen n=7∧64≤n)∨(bitsLen n=8∧128≤n)∨(bitsLen n=9∧256≤n)∨(bitsLen n=10∧512≤n)∨(bitsLen n=11∧1024≤n)∨(bitsLen n=12∧2048≤n)∨(bitsLen n=13∧4096≤n):=by
  have a4:=hk 4
  have a5:=hk 5
  have a6:=hk 6
  have a7:=hk 7
  have a8:=hk 8
  have a9:=hk 9
  have a10:=hk 10
  have a11:=hk 11
  have a12:=hk 12
  omega
 clear hk h6 e h3
 rcases hc with ⟨h,h2⟩ | ⟨h,h2⟩ | ⟨h,h2⟩ | ⟨h,h2⟩ | ⟨h,h2⟩ | ⟨h,h2⟩ | ⟨h,h2⟩ | ⟨h,h2⟩ | ⟨h,h2⟩ | ⟨h,h2⟩
 all_goals rw [h] at CB;clear h
 all_goals
  go_enter Tryz.func194,Tryz.ntmps194
  go_wp2_with (first | (go_at_call 181;refine (CB.out _).mono ?_;rintro e w1 ⟨rfl,rfl⟩))
  go_ret
  first
  | exact ⟨16,rfl,by omega,by omega,rfl⟩
  | exact ⟨32,rfl,by omega,by omega,rfl⟩
  | exact ⟨64,rfl,by omega,by omega,rfl⟩
  | exact ⟨128,rfl,by omega,by omega,rfl⟩
  | exact ⟨256,rfl,by omega,by omega,rfl⟩
  | exact ⟨512,rfl,by omega,by omega,rfl⟩
  | exact ⟨1024,rfl,by omega,by omega,rfl⟩
  | exact ⟨2048,rfl,by omega,by omega,rfl⟩
  | exact ⟨4096,rfl,by omega,by omega,rfl⟩
  | exact ⟨8192,rfl,by omega,by omega,rfl⟩
def Turned (blk off a b:Nat) (d:Array Nat) (w:World) (e:Ending) (w':World):Prop :=
 e=.returned (.tuple #[])∧∃ d',Hid (PermIn a b d d')∧Holds encN w' blk off d'∧Below blk w w'
theorem word_new (w:World) (X:Nat) (T:TypeId):Word w.heap.size X (w.alloc (Obj.cells #[.int .u64 X] T)) :=
 ⟨by rw [World.cell?_alloc_at _ _ _ _ rfl];rfl,by rw [World.frozen?_alloc_at _ _ _ _ rfl]⟩
theorem perm_refl (d:Array Nat) (a b:Nat):PermIn a b d d:=permIn_refl d a b
theorem perm_swap {a b i j:Nat} {d dk:Array Nat} (h:PermIn a b d dk) (hi:a≤i∧i<b) (hj:a≤j∧j<b) (hb:b≤d.size):PermIn a b d (swp dk i j) :=
 permIn_trans _ _ _ a b h (swp_permIn dk a b i j hi.1 hi.2 hj.1 hj.2 (by rw [h.1];exact hb))
end Srt
namespace Srt
open Go.RowKit Go.Sort
theorem below_row (w:World) (n g off:Nat) (d:Array Nat):Below g w (putRow encN (Sort.ahead w n) g off d):=by
 refine ⟨rfl,rfl,rfl,by simp,fun k hk=>?_⟩
 simp only [putRow,mapBlock,heap_ahead,Array.getElem?_modify]
 rw [if_neg (by omega)]
theorem word_row {rb X:Nat} {w:World} (h:Word rb X w) {n blk off:Nat} {d:Array Nat} (hb:blk<rb):Word rb X (putRow encN (Sort.ahead w n) blk off d) :=
 ⟨by rw [cell?_putRow_other _ _ _ _ _ _ (.inl (by show rb≠blk;omega))];exact h.1,by rw [frozen?_putRow];exact h.2⟩
theorem mask (Y M:Nat) (hY:Y<18446744073709551616) (h1:1≤M) (hM:M≤10000):∃ o:Nat,o<M∧bits .and .u64 (Y:Int) ((M:Int) - 1)=(o:Int) :=
 ⟨Y &&& (M - 1),by have:=Nat.and_le_right (n:=Y) (m:=M - 1);omega,by
  rw [show ((M:Int) - 1)=((M - 1:Nat):Int) by omega,bits_and_u64_nat _ _ hY (by omega)]⟩
theorem swap_step {blk off a b i j rb X:Nat} {d dk:Array Nat} {w wr w1:World} (hH:Holds encN w1 blk off dk) (hP:PermIn a b d dk) (hb:b≤d.size) (hi:a≤i∧i<b) (hj:a≤j∧j<b) (h1:Below blk w wr) (h2:Below rb wr w1) (hr:blk<rb) (hw:Word rb X w1) {w2:World}
  (h:w2=((w1.drewN 1).setCell ⟨blk,off+i,none⟩ (.int .u32 dk[j]!)).setCell ⟨blk,off+j,none⟩ (.int .u32 dk[i]!)) :
  Holds encN w2 blk off (swp dk i j)∧Below blk w w2∧Word rb X w2:=by
 have hs:=hP.1
 have e:w2=putRow encN (Sort.ahead w1 1) blk off (swp dk i j):=by
  rw [h]
  have:=swap_worldA encN w1 0 1 blk off dk i j (by omega) (by omega)
  rw [show putRow encN (Sort.ahead w1 0) blk off dk=w1 from putRow_self _ _ _ _ _ hH] at this
  exact this
 rw [e]
 exact ⟨holds_putRow _ _ _ _ _ _ (holds_ahead _ _ _ _ _ _ hH) (size_swp _ _ _),(h1.trans (h2.mono (by omega))).trans (below_row _ _ _ _ _),word_row hw hr⟩
theorem shake_any (blk off cap a b:Nat) (d:Array Nat) (w:World) (hH:Holds encN w blk off d) (hab:a+12<b) (hb:b≤d.size) (hl:b<a+8000) (hsz:d.size<1000000000) (hblk:blk<w.heap.size) :
  Calls Tryz.prog 184 #[.slice (some ⟨blk,off,none⟩) d.size cap,.int .i64 a,.int .i64 b] w (Turned blk off a b d w):=by
 have CP:=Go.Lib.hid (fun (w:World)=>show Calls Tryz.prog 194 #[.int .i64 ((b:Int) - (a:Int))] w (fun e w'=>∃ M:Nat,e=.returned (.int .u64 M)∧(1≤M∧M≤10000)∧M≤2*(b - a)∧w'=w) by
  rw [show ((b:Int) - (a:Int))=((b - a:Nat):Int) by omega]
  exact (power_any (b - a) (by omega) (by omega) w).mono fun e w' ⟨M,h1,h2,h3,h4⟩=>⟨M,h1,by omega,h3,h4⟩)
 have CN:=Go.Lib.hid next_any
 obtain ⟨rb,hrb⟩:∃ rb,rb=w.heap.size:=⟨_,rfl⟩
 have HA:=Go.Lib.hid (fun T=>show Holds encN (w.alloc (Obj.cells #[.int .u64 ((b:Int) - (a:Int))] T)) blk off d∧RowKit.Below blk w (w.alloc (Obj.cells #[.int .u64 ((b:Int) - (a:Int))] T))∧Word rb (b - a) (w.alloc (Obj.cells #[.int .u64 ((b:Int) - (a:Int))] T)) by
  rw [show ((b:Int) - (a:Int))=((b - a:Nat):Int) by omega,hrb]
  have hb0:=(RowKit.Below.refl w.heap.size w).alloc (Nat.le_refl _) (Obj.cells #[.int .u64 ((b - a:Nat):Int)] T)
  exact ⟨holds_below hH hb0 hblk,hb0.mono (by omega),word_new _ _ _⟩)
 have hwrap:IntKind.u64.wrap ((b:Int) - (a:Int))=(b:Int) - (a:Int):=by rw [IntKind.wrap_u64];omega
 clear hH
 go_enter Tryz.func184,Tryz.ntmps184
 go_wp2_with (go_at_call 194;refine (CP.out _).mono ?_)
 rintro e w1 ⟨M,rfl,hM,hM2,rfl⟩
 go_wp2
 rw [← hrb]
 rw [← hrb] at hblk
 clear hrb
 go_loopw [9] (fun vi wr=>∃ (i:Nat) (dk:Array Nat),vi=.int .i64 i∧Hid (a+(b - a) / 4*2≤i+1)∧i≤a+(b - a) / 4*2+2∧Hid (PermIn a b d dk)∧Hid (Holds encN wr blk off dk)∧Hid (RowKit.Below blk w wr)∧Hid (∃ X,X<18446744073709551616∧Word rb X wr)) (fun vi _=>a+(b - a) / 4*2+3 - (intOf vi).toNat)
 case atStart=>exact ⟨a+(b - a) / 4*2 - 1,d,by congr 1;omega,by unfold Hid;omega,by omega,perm_refl d a b,(HA.out _).1,(HA.out _).2.1,b - a,by omega,(HA.out _).2.2⟩
 case round =>
  obtain ⟨i,dk,rfl,hi1,hi2,hP,hH,hB,hX⟩:=hrel
  by_cases hle:i≤a+(b - a) / 4*2+1
  ·have hle2:(i:Int)≤(a:Int)+((b:Int) - (a:Int)) / 4*2+1:=by omega
   have hia:a≤i:=by have:=hi1.out;omega
   have hib:i<b:=by omega
   obtain ⟨X,hX1,hX2⟩:=hX.out
   have C:=Go.Lib.hid (CN.out rb X hX1 wr hX2)
   clear hX2 hX
   go_wp2_with (go_at_call 195;refine (C.out).mono ?_)
   rintro e w1 ⟨Y,rfl,hY,hWY,hBY⟩
   have hWY:=Go.Lib.hid hWY
   have hBY:=Go.Lib.hid hBY
   obtain ⟨o,ho,eo⟩:=mask Y M hY hM.1 hM.2
   have hrb2:blk<rb:=hblk
   have H1:=Go.Lib.hid (holds_below hH.out hBY.out hrb2)
   have hsz1:=hP.out.1
   clear C
   by_cases hge:b - a≤o
   ·obtain ⟨p,hp⟩:∃ p,p=o - (b - a):=⟨_,rfl⟩
    have hpb:a+p<b:=by omega
    have hpd:a+p<d.size:=by omega
    have hid:i<d.size:=by omega
    have ST:=Go.Lib.hid (fun w2 h=>swap_step (w2:=w2) (i:=i) (j:=a+p) H1.out hP.out hb ⟨hia,hib⟩ ⟨by omega,hpb⟩ hB.out hBY.out hrb2 hWY.out h)
    obtain ⟨G,hG,hcw,hfw⟩:=row_facts (m:=0) (dk:=dk) H1.out rfl (show w1=putRow encN (Sort.ahead w1 0) blk off dk from (putRow_self _ _ _ _ _ H1.out).symm)
    have HG:=Go.Lib.hid hG
    rw [hsz1] at hcw hfw
    clear hG
    have PE:=Go.Lib.hid (perm_swap (i:=i) (j:=a+p) hP.out ⟨hia,hib⟩ ⟨by omega,hpb⟩ hb)
    have hge2:(b:Int) - (a:Int)≤(o:Int):=by omega
    go_wp2
    rw [show ((o:Int) - ((b:Int) - (a:Int)))=(p:Int) by omega]
    clear hp
    by_cases hip:i=a+p
    ·subst hip
     go_region
     all_goals go_wp2
     go_roundw
     case rel=>exact ⟨a+p+1,swp dk (a+p) (a+p),by go_num,by have:=hi1.out;unfold Hid;omega,by omega,PE.out,(ST.out _ (by rw [← HG.out];rfl)).1,(ST.out _ (by rw [← HG.out];rfl)).2.1,Y,hY,(ST.out _ (by rw [← HG.out];rfl)).2.2⟩
     case measure=>simp [intOf] <;> omega
    ·go_region
     all_goals go_wp2
     go_roundw
     case rel=>exact ⟨i+1,swp dk i (a+p),by go_num,by have:=hi1.out;unfold Hid;omega,by omega,PE.out,(ST.out _ (by rw [← HG.out,← HG.out];rfl)).1,(ST.out _ (by rw [← HG.out,← HG.out];rfl)).2.1,Y,hY,(ST.out _ (by rw [← HG.out,← HG.out];rfl)).2.2⟩
     case measure=>simp [intOf] <;> omega
   ·obtain ⟨p,hp⟩:∃ p,p=o:=⟨_,rfl⟩
    have hpb:a+p<b:=by omega
    have hpd:a+p<d.size:=by omega
    have hid:i<d.size:=by omega
    have ST:=Go.Lib.hid (fun w2 h=>swap_step (w2:=w2) (i:=i) (j:=a+p) H1.out hP.out hb ⟨hia,hib⟩ ⟨by omega,hpb⟩ hB.out hBY.out hrb2 hWY.out h)
    obtain ⟨G,hG,hcw,hfw⟩:=row_facts (m:=0) (dk:=dk) H1.out rfl (show w1=putRow encN (Sort.ahead w1 0) blk off dk from (putRow_self _ _ _ _ _ H1.out).symm)
    have HG:=Go.Lib.hid hG
    rw [hsz1] at hcw hfw
    clear hG
    have PE:=Go.Lib.hid (perm_swap (i:=i) (j:=a+p) hP.out ⟨hia,hib⟩ ⟨by omega,hpb⟩ hb)
    have hge2:¬ (b:Int) - (a:Int)≤(o:Int):=by omega
    go_wp2
    rw [show (o:Int)=(p:Int) by omega]
    clear hp
    by_cases hip:i=a+p
    ·subst hip
     go_region
     all_goals go_wp2
     go_roundw
     case rel=>exact ⟨a+p+1,swp dk (a+p) (a+p),by go_num,by have:=hi1.out;unfold Hid;omega,by omega,PE.out,(ST.out _ (by rw [← HG.out];rfl)).1,(ST.out _ (by rw [← HG.out];rfl)).2.1,Y,hY,(ST.out _ (by rw [← HG.out];rfl)).2.2⟩
     case measure=>simp [intOf] <;> omega
    ·go_region
     all_goals go_wp2
     go_roundw
     case rel=>exact ⟨i+1,swp dk i (a+p),by go_num,by have:=hi1.out;unfold Hid;omega,by omega,PE.out,(ST.out _ (by rw [← HG.out,← HG.out];rfl)).1,(ST.out _ (by rw [← HG.out,← HG.out];rfl)).2.1,Y,hY,(ST.out _ (by rw [← HG.out,← HG.out];rfl)).2.2⟩
     case measure=>simp [intOf] <;> omega
  ·have hle2:¬ (i:Int)≤(a:Int)+((b:Int) - (a:Int)) / 4*2+1:=by omega
   go_wp2
   go_end0
   exact ⟨rfl,dk,hP,hH.out,hB.out⟩
end Srt
end Go.Proofs.YtjfmompgkkdliaaGreatDoor
