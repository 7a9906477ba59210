/- Part of the proof. -/
import Derived.Test.YtjfmompgkkdliaaGreatDoorH32
import Derived.Test.YtjfmompgkkdliaaGreatDoorH01
import Derived.WalkSpells
import Derived.Lib.SlicesCompact
open Go.Lib (hid)
set_option maxRecDepth 100000
set_option maxHeartbeats 40000000
namespace Go.Proofs.YtjfmompgkkdliaaGreatDoor
namespace Srt
open Go.RowKit Go.Sort Mem Rise
theorem clone_any (v:Value) (l:List Nat) (w:World) (hv:U32s w v l) (hlen:l.length≤1000000) :
  Calls Tryz.prog 37 #[v] w (Gives32 22 l w):=by
 obtain ⟨i,E⟩:=Nums.elem32
 obtain ⟨⟨hlen2,A,c,rfl,hlc,hc,hr⟩,hl⟩:=hv
 have hc2:c≤9223372036854775807:=hc
 cases A with
 | none =>
  have h0:l=[]:=by
   rcases Nat.eq_zero_or_pos l.length with h | h
   ·exact List.eq_nil_of_length_eq_zero h
   ·obtain ⟨_,_,h,_⟩:=hr h;cases h
  subst h0
  have e1:=fun (W:World)=>Lib.run_eql_slice_nil (P:=Tryz.prog) W 27 22 none 0 c 0 0 Tryz.underlying27
  go_enter Tryz.func37,Tryz.ntmps37
  go_wp2
  go_ret
  exact ⟨_,rfl,World.ownsRow_nil _ _ _ _,Below.refl _ _⟩
 | some ad =>
  have hmade:=World.ownsRow_lit (base:=w.heap.size) (e:=22) (size:=1) w #[] 0 (Nat.le_refl _) (Nat.zero_le _) rfl
  have hR:Row w 1 (.slice (some ad) l.length c) l.length (l.map fun n:Nat=>Value.int .u32 n):=⟨hlen2,some ad,c,rfl,hlc,hc,hr⟩
  have hR3:=hR.keep ((Below.refl _ _).alloc (Nat.le_refl _) (.cells #[] 22))
  have e1:=fun (W:World)=>Lib.run_eql_slice_nil (P:=Tryz.prog) W 27 22 (some ad) l.length c 0 0 Tryz.underlying27
  clear hlen2
  go_enter Tryz.func37,Tryz.ntmps37
  go_wp2_with (at_builtin;refine wpList_append_row rfl (.tmp 5) (.tmp 6) rfl E w.heap.size _ 0 [] rfl hmade _ l.length _ rfl hR3 (ones_u32 _) (by unfold maxLen;omega) (by omega) (by simp) l.length (by omega) ?_;intro A1 c1 w1 hown1 hg1 hat1 hb1)
  go_ret
  exact ⟨_,rfl,by simpa using hown1,((Below.refl _ _).alloc (Nat.le_refl _) _).trans hb1⟩
theorem insertion_nil (A:Option Addr) (cap:Nat) (w:World) :
  Calls Tryz.prog 182 #[.slice A 0 cap,.int .i64 0,.int .i64 0] w fun e w'=>e=.returned (.tuple #[])∧w=w':=by
 go_enter Tryz.func182,Tryz.ntmps182
 go_wp2
 refine wp_loop_rounds 1 ?_
 rw [rounds_succ]
 go_wp2
 go_end0
 exact ⟨rfl,rfl⟩
theorem pdq_nil (A:Option Addr) (cap limit:Nat) (w:World) :
  Calls Tryz.prog 180 #[.slice A 0 cap,.int .i64 0,.int .i64 0,.int .i64 limit] w fun e w'=>e=.returned (.tuple #[])∧w=w':=by
 have C:=hid insertion_nil
 go_enter Tryz.func180,Tryz.ntmps180
 go_wp2
 refine wp_loop_rounds 1 ?_
 rw [rounds_succ]
 go_wp2_with (go_at_call 182;refine (C.out _ _ _).mono ?_;rintro e w1 ⟨rfl,rfl⟩)
 refine bodyPost_ret (results_none rfl _ _ _) rfl ?_
 exact ⟨rfl,rfl⟩
theorem sort_nil (A:Option Addr) (cap:Nat) (w:World) :
  Calls Tryz.prog 176 #[.slice A 0 cap] w fun e w'=>e=.returned (.tuple #[])∧w=w':=by
 have C:=hid pdq_nil
 have CB:=hid (fun w=>Tryz.bits_Len 0 w (by omega) (by omega))
 go_enter Tryz.func176,Tryz.ntmps176
 go_wp2_with (first | (go_at_call 181;refine (CB.out _).mono ?_;rintro e w1 ⟨rfl,rfl⟩) | (go_at_call 180;refine (C.out _ _ _ _).mono ?_;rintro e w1 ⟨rfl,rfl⟩))
 go_end0
 exact ⟨rfl,rfl⟩
theorem compact_nil (A:Option Addr) (cap:Nat) (w:World) :
  Calls Tryz.prog 177 #[.slice A 0 cap] w fun e w'=>e=.returned (.slice A 0 cap)∧w=w':=by
 go_enter Tryz.func177,Tryz.ntmps177
 go_wp2
 go_ret
 exact ⟨rfl,rfl⟩
theorem one32:OneCell encN:=fun _=>rfl
theorem natEq (x y:Nat):((x:Int) == (y:Int))=decide (x=y):=by
 by_cases h:x=y
 ·simp [h]
 ·simp [h];omega
theorem zero32:∀ w,(zeroValue 22).run Tryz.prog w=.ok (encN 0) w:=fun w=>Tryz.zeroValue22 w
theorem eq32:EqlAt Tryz.prog 22 encN (fun x y=>decide (x=y)) :=
 ⟨fun x y w=>by rw [(EqlAt.int Tryz.prog 22 .u32).1 x y w];simp only [natEq],fun op a b x y=>(EqlAt.int Tryz.prog 22 .u32).2 op a b x y⟩
theorem ne32:NeqAt Tryz.prog 22 encN (fun x y=>decide (x=y)) :=
 ⟨fun x y w=>by rw [(NeqAt.int Tryz.prog 22 .u32).1 x y w];simp only [natEq],fun op a b x y=>(NeqAt.int Tryz.prog 22 .u32).2 op a b x y⟩
theorem compact_rising {d:Array Nat} (hs:SortedIn ltN 0 d.size d):∀ m,m≤d.size→rising (Lib.compactUpTo d m)∧(∀ x,x∈Lib.compactUpTo d m ↔ ∃ j,j<m∧d[j]! = x):=by
 intro m
 induction m with
 | zero=>intro _;simp [Lib.compactUpTo,rising]
 | succ m ih =>
  intro hm
  obtain ⟨h1,h2⟩:=ih (by omega)
  rw [Lib.compactUpTo_succ]
  have hle:∀ j,j<m→d[j]!≤d[m]!:=fun j hj=>by
   have:=hs j m (Nat.zero_le _) hj (by omega)
   unfold ltN at this
   simpa using this
  by_cases hk:Lib.keeps d m=true
  ·rw [if_pos hk]
   have hlt:∀ j,j<m→d[j]!<d[m]!:=fun j hj=>by
    have h3:m=0∨d[m]!≠d[m - 1]!:=by simpa [Lib.keeps] using hk
    rcases h3 with h3 | h3
    ·omega
    ·have a1:=hle j hj
     have a2:=hle (m - 1) (by omega)
     have a3:d[j]!≤d[m - 1]!:=by
      rcases Nat.lt_or_ge j (m - 1) with h | h
      ·have:=hs j (m - 1) (Nat.zero_le _) h (by omega)
       unfold ltN at this
       simpa using this
      ·rw [show j=m - 1 by omega];exact Nat.le_refl _
     omega
   refine ⟨?_,fun x=>?_⟩
   ·unfold rising
    refine List.pairwise_append.2 ⟨h1,by simp,fun x hx y hy=>?_⟩
    rw [List.mem_singleton.1 hy]
    obtain ⟨j,hj,rfl⟩:=(h2 x).1 hx
    exact hlt j hj
   ·rw [List.mem_append,h2,List.mem_singleton]
    constructor
    ·rintro (⟨j,hj,e⟩ | rfl)
     ·exact ⟨j,by omega,e⟩
     ·exact ⟨m,by omega,rfl⟩
    ·rintro ⟨j,hj,e⟩
     by_cases hjm:j<m
     ·exact .inl ⟨j,hjm,e⟩
     ·exact .inr (by rw [← e,show j=m by omega])
  ·rw [if_neg hk,List.append_nil]
   refine ⟨h1,fun x=>?_⟩
   have h3:m≠0∧d[m]! = d[m - 1]!:=by simpa [Lib.keeps] using hk
   rw [h2]
   constructor
   ·rintro ⟨j,hj,e⟩;exact ⟨j,by omega,e⟩
   ·rintro ⟨j,hj,e⟩
    by_cases hjm:j<m
    ·exact ⟨j,hjm,e⟩
    ·exact ⟨m - 1,by omega,by rw [← e,show j=m by omega,h3.2]⟩
theorem compact_set {d:Array Nat} {l:List Nat} (hs:SortedIn ltN 0 d.size d) (hm:∀ x,x∈d.toList ↔ x∈l):Lib.compactUpTo d d.size=setOf l:=by
 obtain ⟨h1,h2⟩:=compact_rising hs d.size (Nat.le_refl _)
 refine rising_ext h1 (rising_setOf l) fun x=>?_
 rw [h2,mem_setOf,← hm]
 constructor
 ·rintro ⟨j,hj,rfl⟩
  rw [getElem!_pos d j hj]
  exact Array.getElem_mem_toList hj
 ·intro hx
  obtain ⟨j,hj,e⟩:=List.getElem_of_mem hx
  have hj2:j<d.size:=by simpa using hj
  exact ⟨j,hj2,by rw [getElem!_pos d j hj2];simpa using e⟩
theorem own_holds {w:World} {base g cap:Nat} {l:List Nat} (h:w.ownsRow base 22 1 (.slice (some ⟨g,0,none⟩) l.length cap) l.length (l.map fun n:Nat=>Value.int .u32 n)):Holds encN w g 0 l.toArray:=by
 intro j hj
 have hj2:j<l.length:=by simpa using hj
 refine ⟨?_,by rw [Nat.zero_add];exact h.frozenAt j⟩
 rw [Nat.zero_add,h.cellAt j (by omega),List.getElem?_map,List.getElem?_eq_getElem hj2]
 simp [hj2]
theorem row_put {w:World} {g cap n m:Nat} {d d':Array Nat} (hH:Holds encN w g 0 d) (hs:d'.size=d.size) (hm:m≤d'.size) (hc:d.size≤cap) (hcm:cap≤maxLen) (hg:g<w.heap.size) :
  Row (putRow encN (Sort.ahead w n) g 0 d') 1 (.slice (some ⟨g,0,none⟩) m cap) m ((d'.toList.take m).map fun n:Nat=>Value.int .u32 n):=by
 refine ⟨by simp;omega,_,cap,rfl,by omega,hcm,fun _=>⟨g,0,rfl,by simpa using hg,fun i x hx=>?_⟩⟩
 rw [List.getElem?_map] at hx
 cases hi:(d'.toList.take m)[i]? with
 | none=>rw [hi] at hx;cases hx
 | some y =>
  rw [hi] at hx
  injection hx with hx
  subst hx
  rw [List.getElem?_take] at hi
  split at hi
  ·obtain ⟨h1,h2⟩:=List.getElem?_eq_some_iff.1 hi
   have h3:i<d'.size:=by simpa using h1
   rw [cell?_putRow encN _ g 0 d d' (holds_ahead _ _ _ _ _ _ hH) hs i h3,getElem!_pos d' i h3]
   simp at h2
   rw [h2]
  ·cases hi
theorem below_put (w:World) (n g off:Nat) (d:Array Nat):Below g w (putRow encN (Sort.ahead w n) g off d):=by
 refine ⟨rfl,rfl,rfl,by simp,fun k hk=>?_⟩
 simp only [putRow,mapBlock,heap_ahead,Array.getElem?_modify]
 rw [if_neg (by omega)]
structure Sorts (S:Array Nat→Array Nat) (most:Nat):Prop where
 size:∀ d:Array Nat,d.size≤most→(S d).size=d.size
 mem:∀ d:Array Nat,d.size≤most→∀ x,x∈(S d).toList ↔ x∈d.toList
 order:∀ d:Array Nat,d.size≤most→SortedIn ltN 0 (S d).size (S d)
theorem sorts_small:Sorts (fun d=>Sort.insertionSort ltN d 0 d.size) 12:=by
 have h:∀ d:Array Nat,PermIn 0 d.size d (Sort.insertionSort ltN d 0 d.size)∧SortedIn ltN 0 d.size (Sort.insertionSort ltN d 0 d.size):=fun d=>insertionSort_holds swoN d 0 d.size (Nat.zero_le _) (Nat.le_refl _)
 refine ⟨fun d _=>(h d).1.1,fun d _ x=>?_,fun d _=>by rw [(h d).1.1];exact (h d).2⟩
 have hp:=(h d).1.2.2
 have e1:(Sort.insertionSort ltN d 0 d.size).extract 0 d.size=Sort.insertionSort ltN d 0 d.size:=by
  have:=(h d).1.1
  generalize Sort.insertionSort ltN d 0 d.size=r at this ⊢
  rw [← this];simp
 rw [e1] at hp
 have e2:d.extract 0 d.size=d:=by simp
 rw [e2] at hp
 exact hp.mem_iff
theorem row_putG {w w':World} {g cap n m:Nat} {d d':Array Nat} {os:Array Obj} (hw:w'=grow (putRow encN (Sort.ahead w n) g 0 d') os) (hH:Holds encN w g 0 d) (hs:d'.size=d.size) (hm:m≤d'.size) (hc:d.size≤cap) (hcm:cap≤maxLen) (hg:g<w.heap.size) :
  Row w' 1 (.slice (some ⟨g,0,none⟩) m cap) m ((d'.toList.take m).map fun n:Nat=>Value.int .u32 n)∧Below g w w':=by
 subst hw
 have hb:Below (putRow encN (Sort.ahead w n) g 0 d').heap.size (putRow encN (Sort.ahead w n) g 0 d') (grow (putRow encN (Sort.ahead w n) g 0 d') os) :=
  ⟨rfl,rfl,rfl,by simp [grow],fun k hk=>by simp only [grow];rw [Array.getElem?_append_left hk]⟩
 exact ⟨(row_put hH hs hm hc hcm hg).keep hb,(below_put w n g 0 d').trans (hb.mono (by simpa using Nat.le_of_lt hg))⟩
theorem holds_putG {w w':World} {g n:Nat} {d d':Array Nat} {os:Array Obj} (hw:w'=grow (putRow encN (Sort.ahead w n) g 0 d') os) (hH:Holds encN w g 0 d) (hs:d'.size=d.size) (hg:g<w.heap.size):Holds encN w' g 0 d':=by
 subst hw
 exact holds_grow encN _ os g 0 d' (by simpa using hg) (holds_putRow encN _ g 0 d d' (holds_ahead _ _ _ _ _ _ hH) hs)
theorem set_end {w w1 w2 w3:World} {g cap n2 n3:Nat} {os2:Array Obj} {l:List Nat} {D:Array Nat} (hb1:Below w.heap.size w w1) (hg:l.length≤cap∧cap≤maxLen∧g<w1.heap.size∧w.heap.size≤g∧Holds encN w1 g 0 l.toArray)
  (h2:w2=grow (putRow encN (Sort.ahead w1 n2) g 0 D) os2) (h3:w3=putRow encN (Sort.ahead w2 n3) g 0 (Lib.compactUpTo D l.length ++ List.replicate (l.length - (Lib.compactUpTo D l.length).length) 0).toArray)
  (he:Lib.compactUpTo D D.size=setOf l) (hz:D.size=l.length) (hl:∀ n∈l,n<4294967296):Tells32 (setOf l) w (.returned (.slice (some ⟨g,0,none⟩) (Lib.compactUpTo D l.length).length cap)) w3:=by
 obtain ⟨g1,g2,g3,g4,hH⟩:=hg
 rw [hz] at he
 rw [he] at h3 ⊢
 have hH2:Holds encN w2 g 0 D:=holds_putG h2 hH (by simpa using hz) g3
 have hg2:g<w2.heap.size:=by rw [h2];simp only [grow,Array.size_append,size_putRow,heap_ahead];omega
 have hle:(setOf l).length≤l.length:=Nums.length_setOf l
 have hs:((setOf l) ++ List.replicate (l.length - (setOf l).length) 0).toArray.size=D.size:=by rw [List.size_toArray,List.length_append,List.length_replicate];omega
 obtain ⟨hR,hb3⟩:=row_putG (os:=#[]) (h3.trans (grow_empty _).symm) hH2 hs (m:=(setOf l).length) (by rw [hs];omega) (by omega) g2 hg2
 have hb2:=(row_putG (m:=0) (cap:=cap) h2 hH (by simpa using hz) (Nat.zero_le _) (by simpa using g1) g2 g3).2
 refine ⟨_,rfl,⟨?_,fun n hn=>hl n ((mem_setOf l n).1 hn)⟩,hb1.trans ((hb2.mono g4).trans (hb3.mono g4))⟩
 have e:((setOf l) ++ List.replicate (l.length - (setOf l).length) 0).toArray.toList.take (setOf l).length=setOf l:=by simp
 rw [e] at hR
 exact hR
theorem set_from (S:Array Nat→Array Nat) (most:Nat) (hS:Sorts S most) (hmost:most≤1000000)
  (CS:∀ (blk off cap:Nat) (d:Array Nat) (w:World),Holds encN w blk off d→blk<w.heap.size→d.size≤most→Calls Tryz.prog 176 #[.slice (some ⟨blk,off,none⟩) d.size cap] w (PutsG blk off (S d) w))
  (v:Value) (l:List Nat) (w:World) (hv:U32s w v l) (hlen:l.length≤most) :
  Calls Tryz.prog 163 #[v] w (Tells32 (setOf l) w):=by
 have hl:=hv.2
 have C0:=clone_any v l w hv (by omega)
 have HS:=hid hS
 rcases Nat.eq_zero_or_pos l.length with h0 | h0
 ·obtain rfl:l=[]:=List.eq_nil_of_length_eq_zero h0
  have C1:=hid (C0.mono fun e w1 h=>show (∃ A c,e=.returned (.slice A 0 c)∧Hid (c≤maxLen))∧Below w.heap.size w w1 from by
   obtain ⟨v1,rfl,hown,hb⟩:=h
   obtain ⟨_,A,c,rfl,_,hc,_⟩:=Row.of_own hown
   exact ⟨⟨A,c,rfl,hc⟩,hb⟩)
  have CN1:=hid sort_nil
  have CN2:=hid compact_nil
  clear hv CS C0 hl h0
  go_enter Tryz.func163,Tryz.ntmps163
  go_wp2_with (first | (go_at_call 37;refine (C1.out).mono ?_;rintro e w1 ⟨⟨A,c,rfl,hcm⟩,hb1⟩) | (go_at_call 176;refine (CN1.out _ _ _).mono ?_;rintro e w2 ⟨rfl,rfl⟩) | (go_at_call 177;refine (CN2.out _ _ _).mono ?_;rintro e w2 ⟨rfl,rfl⟩))
  go_ret
  exact ⟨_,rfl,⟨⟨rfl,A,c,rfl,Nat.zero_le _,hcm.out,fun h=>absurd h (Nat.lt_irrefl _)⟩,by simp [setOf]⟩,hb1⟩
 ·have C1:=hid (C0.mono fun e w1 h=>show (∃ g cap,e=.returned (.slice (some ⟨g,0,none⟩) l.length cap)∧Hid (l.length≤cap∧cap≤maxLen∧g<w1.heap.size∧w.heap.size≤g∧Holds encN w1 g 0 l.toArray))∧Below w.heap.size w w1 from by
   obtain ⟨v1,rfl,hown,hb⟩:=h
   obtain ⟨g,cap,rfl,hg1,hg2⟩:=hown.form h0
   refine ⟨⟨g,cap,rfl,?_⟩,hb⟩
   have hH:=own_holds hown
   rcases hown.2 with ⟨h,_⟩ | ⟨g',cap',cur,he,_,_,h1,h2,_⟩
   ·cases h
   ·injection he with e1 e2 e3
    subst e3
    exact ⟨h1,h2,hg2,hg1,hH⟩)
  have CS':=hid (fun g cap W (hH:Holds encN W g 0 l.toArray) (hg:g<W.heap.size)=>CS g 0 cap l.toArray W hH hg (by simpa using hlen))
  have hsz:(S l.toArray).size=l.length:=(hS.size _ (by simpa using hlen)).trans (by simp)
  have CK:=hid (fun (g cap:Nat) (W:World) (hH:Holds encN W g 0 (S l.toArray)) (hcap:l.length≤cap)=>Tryz.slices_Compact encN one32 eq32 ne32 0 zero32 g 0 cap (S l.toArray) W hH (by omega) (by omega))
  have HE:=hid (show Lib.compactUpTo (S l.toArray) (S l.toArray).size=setOf l from compact_set (hS.order _ (by simpa using hlen)) (fun x=>by rw [hS.mem _ (by simpa using hlen)]))
  simp only [List.size_toArray] at CS'
  rw [hsz] at CK
  clear hv CS C0
  generalize hD:S l.toArray=D at CS' CK HE hsz
  have HD:=hid hD
  have HZ:=hid hsz
  clear hD hsz
  go_enter Tryz.func163,Tryz.ntmps163
  go_wp2_with (first | (go_at_call 37;refine (C1.out).mono ?_;rintro e w1 ⟨⟨g,cap,rfl,hg⟩,hb1⟩) | (go_at_call 176;refine (CS'.out g cap w1 hg.out.2.2.2.2 hg.out.2.2.1).mono ?_;rintro e w2 ⟨rfl,n2,os2,hw2⟩;have H2:=hid hw2;clear hw2) | (go_at_call 177;refine (CK.out g cap w2 (holds_putG H2.out hg.out.2.2.2.2 (by simpa using HZ.out) hg.out.2.2.1) hg.out.1).mono ?_;rintro e w3 ⟨rfl,n3,hw3⟩;have H3:=hid hw3;clear hw3))
  go_ret
  exact set_end hb1 hg.out H2.out H3.out HE.out HZ.out hl
theorem set_small (v:Value) (l:List Nat) (w:World) (hv:U32s w v l) (hlen:l.length≤12):Calls Tryz.prog 163 #[v] w (Tells32 (setOf l) w) :=
 set_from _ 12 sorts_small (by omega) (fun blk off cap d w hH _ hs=>(sort_small blk off cap d w hH hs).mono fun _ _ h=>h.grown) v l w hv hlen
end Srt
end Go.Proofs.YtjfmompgkkdliaaGreatDoor
