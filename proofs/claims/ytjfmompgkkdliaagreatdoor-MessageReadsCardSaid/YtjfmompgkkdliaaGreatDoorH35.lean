/- Part of the proof. -/
import Derived.Test.YtjfmompgkkdliaaGreatDoorH33
import Derived.Test.YtjfmompgkkdliaaGreatDoorH34
open Go.Lib (hid)
set_option maxRecDepth 100000
set_option maxHeartbeats 40000000
namespace Go.Proofs.YtjfmompgkkdliaaGreatDoor
namespace Srt
open Go.RowKit Go.Sort Mem Rise
theorem sorts_all (most:Nat):Sorts srt most:=by
 have h:=srt_ordered
 refine ⟨fun d _=>(h d).1.1,fun d _ x=>?_,fun d _=>by rw [(h d).1.1];exact (h d).2⟩
 have hp:=(h d).1.2.2
 have e1:(srt d).extract 0 d.size=srt d:=by
  have:=(h d).1.1
  generalize srt d=r at this ⊢
  rw [← this];simp
 rw [e1] at hp
 have e2:d.extract 0 d.size=d:=by simp
 rw [e2] at hp
 exact hp.mem_iff
theorem set_end2 {w w1 w2 w3:World} {g cap n3:Nat} {l:List Nat} {D:Array Nat} (hb1:RowKit.Below w.heap.size w w1) (hg:l.length≤cap∧cap≤maxLen∧g<w1.heap.size∧w.heap.size≤g∧Holds encN w1 g 0 l.toArray)
  (h2:Left g 0 D w1 w2) (h3:w3=putRow encN (Sort.ahead w2 n3) g 0 (Lib.compactUpTo D l.length ++ List.replicate (l.length - (Lib.compactUpTo D l.length).length) 0).toArray)
  (he:Lib.compactUpTo D D.size=setOf l) (hz:D.size=l.length) (hl:∀ n∈l,n<4294967296):Tells32 (setOf l) w (.returned (.slice (some ⟨g,0,none⟩) (Lib.compactUpTo D l.length).length cap)) w3:=by
 obtain ⟨g1,g2,g3,g4,hH⟩:=hg
 rw [hz] at he
 rw [he] at h3 ⊢
 obtain ⟨hH2,hb2⟩:=h2
 have hg2:g<w2.heap.size:=Nat.lt_of_lt_of_le g3 hb2.size
 have hle:(setOf l).length≤l.length:=Nums.length_setOf l
 have hs:((setOf l) ++ List.replicate (l.length - (setOf l).length) 0).toArray.size=D.size:=by rw [List.size_toArray,List.length_append,List.length_replicate];omega
 obtain ⟨hR,hb3⟩:=row_putG (os:=#[]) (h3.trans (grow_empty _).symm) hH2 hs (m:=(setOf l).length) (by rw [hs];omega) (by omega) g2 hg2
 refine ⟨_,rfl,⟨?_,fun n hn=>hl n ((mem_setOf l n).1 hn)⟩,hb1.trans ((hb2.mono g4).trans (hb3.mono g4))⟩
 have e:((setOf l) ++ List.replicate (l.length - (setOf l).length) 0).toArray.toList.take (setOf l).length=setOf l:=by simp
 rw [e] at hR
 exact hR
theorem set_any (v:Value) (l:List Nat) (w:World) (hv:U32s w v l) (hlen:l.length<5000) :
  Calls Tryz.prog 163 #[v] w (Tells32 (setOf l) w):=by
 rcases Nat.eq_zero_or_pos l.length with h0 | h0
 ·exact set_small v l w hv (by omega)
 ·have hl:=hv.2
  have C0:=clone_any v l w hv (by omega)
  have hS:=sorts_all 5000
  have C1:=hid (C0.mono fun e w1 h=>show (∃ g cap,e=.returned (.slice (some ⟨g,0,none⟩) l.length cap)∧Hid (l.length≤cap∧cap≤maxLen∧g<w1.heap.size∧w.heap.size≤g∧Holds encN w1 g 0 l.toArray))∧RowKit.Below w.heap.size w w1 from by
   obtain ⟨v1,rfl,hown,hb⟩:=h
   obtain ⟨g,cap,rfl,hg1,hg2⟩:=hown.form h0
   refine ⟨⟨g,cap,rfl,?_⟩,hb⟩
   have hH:=own_holds hown
   rcases hown.2 with ⟨h,_⟩ | ⟨g',cap',cur,he,_,_,h1,h2,_⟩
   ·cases h
   ·injection he with e1 e2 e3
    subst e3
    exact ⟨h1,h2,hg2,hg1,hH⟩)
  have CS':=hid (fun g cap W (hH:Holds encN W g 0 l.toArray) (hg:g<W.heap.size)=>sort_any g cap l.toArray W hH hg (by simpa using hlen))
  have hsz:(srt l.toArray).size=l.length:=(hS.size _ (by simp;omega)).trans (by simp)
  have CK:=hid (fun (g cap:Nat) (W:World) (hH:Holds encN W g 0 (srt l.toArray)) (hcap:l.length≤cap)=>Tryz.slices_Compact encN one32 eq32 ne32 0 zero32 g 0 cap (srt l.toArray) W hH (by omega) (by omega))
  have HE:=hid (show Lib.compactUpTo (srt l.toArray) (srt l.toArray).size=setOf l from compact_set (hS.order _ (by simp;omega)) (fun x=>by rw [hS.mem _ (by simp;omega)]))
  simp only [List.size_toArray] at CS'
  rw [hsz] at CK
  clear hv C0 hS
  generalize hD:srt l.toArray=D at CS' CK HE hsz
  have HZ:=hid hsz
  clear hD hsz
  go_enter Tryz.func163,Tryz.ntmps163
  go_wp2_with (first | (go_at_call 37;refine (C1.out).mono ?_;rintro e w1 ⟨⟨g,cap,rfl,hg⟩,hb1⟩) | (go_at_call 176;refine (CS'.out g cap w1 hg.out.2.2.2.2 hg.out.2.2.1).mono ?_;rintro e w2 ⟨rfl,H2⟩) | (go_at_call 177;refine (CK.out g cap w2 H2.out.1 hg.out.1).mono ?_;rintro e w3 ⟨rfl,n3,hw3⟩;have H3:=hid hw3;clear hw3))
  go_ret
  exact set_end2 hb1 hg.out H2.out H3.out HE.out HZ.out hl
end Srt
namespace Srt
open Go.RowKit Go.Sort Mem Rise
def NewV (w:World) (e:Ending):Prop:=∀ v b off m c,e=.returned v→v=.slice (some ⟨b,off,none⟩) m c→w.heap.size≤b
theorem set_new (v:Value) (l:List Nat) (w:World) (hv:U32s w v l) (h0:0<l.length) (hlen:l.length<5000) :
  Calls Tryz.prog 163 #[v] w fun e w'=>Tells32 (setOf l) w e w'∧NewV w e:=by
 have hl:=hv.2
 have C0:=clone_any v l w hv (by omega)
 have hS:=sorts_all 5000
 have C1:=hid (C0.mono fun e w1 h=>show (∃ g cap,e=.returned (.slice (some ⟨g,0,none⟩) l.length cap)∧Hid (l.length≤cap∧cap≤maxLen∧g<w1.heap.size∧w.heap.size≤g∧Holds encN w1 g 0 l.toArray))∧RowKit.Below w.heap.size w w1 from by
  obtain ⟨v1,rfl,hown,hb⟩:=h
  obtain ⟨g,cap,rfl,hg1,hg2⟩:=hown.form h0
  refine ⟨⟨g,cap,rfl,?_⟩,hb⟩
  have hH:=own_holds hown
  rcases hown.2 with ⟨h,_⟩ | ⟨g',cap',cur,he,_,_,h1,h2,_⟩
  ·cases h
  ·injection he with e1 e2 e3
   subst e3
   exact ⟨h1,h2,hg2,hg1,hH⟩)
 have CS':=hid (fun g cap W (hH:Holds encN W g 0 l.toArray) (hg:g<W.heap.size)=>sort_any g cap l.toArray W hH hg (by simpa using hlen))
 have hsz:(srt l.toArray).size=l.length:=(hS.size _ (by simp;omega)).trans (by simp)
 have CK:=hid (fun (g cap:Nat) (W:World) (hH:Holds encN W g 0 (srt l.toArray)) (hcap:l.length≤cap)=>Tryz.slices_Compact encN one32 eq32 ne32 0 zero32 g 0 cap (srt l.toArray) W hH (by omega) (by omega))
 have HE:=hid (show Lib.compactUpTo (srt l.toArray) (srt l.toArray).size=setOf l from compact_set (hS.order _ (by simp;omega)) (fun x=>by rw [hS.mem _ (by simp;omega)]))
 simp only [List.size_toArray] at CS'
 rw [hsz] at CK
 clear hv C0 hS
 generalize hD:srt l.toArray=D at CS' CK HE hsz
 have HZ:=hid hsz
 clear hD hsz
 go_enter Tryz.func163,Tryz.ntmps163
 go_wp2_with (first | (go_at_call 37;refine (C1.out).mono ?_;rintro e w1 ⟨⟨g,cap,rfl,hg⟩,hb1⟩) | (go_at_call 176;refine (CS'.out g cap w1 hg.out.2.2.2.2 hg.out.2.2.1).mono ?_;rintro e w2 ⟨rfl,H2⟩) | (go_at_call 177;refine (CK.out g cap w2 H2.out.1 hg.out.1).mono ?_;rintro e w3 ⟨rfl,n3,hw3⟩;have H3:=hid hw3;clear hw3))
 go_ret
 exact ⟨set_end2 hb1 hg.out H2.out H3.out HE.out HZ.out hl,fun v b off m c e1 e2=>by
  injection e1 with e1
  rw [← e1] at e2
  injection e2 with e2
  injection e2 with e2
  injection e2 with e2
  rw [← e2]
  exact hg.out.2.2.2.1⟩
end Srt
end Go.Proofs.YtjfmompgkkdliaaGreatDoor
