/- Part of the proof. -/
import Derived.Test.YtjfmompgkkdliaaGreatDoorH00
import Derived.BigQuiet
import Derived.Outline
import Derived.Deep.RegionHeld3
import Derived.Deep.DrawnRows
import Derived.Deep.QuietTactic
open Go.Lib (hid)
set_option maxRecDepth 100000
set_option maxHeartbeats 40000000
namespace Go.Proofs.YtjfmompgkkdliaaGreatDoor
namespace Nums
open Go.RowKit Mem Rise
attribute [local go_sem ↓] Go.wp_at_zero Go.wp_at_succ
theorem refPut_same (v:Value) (l:List Nat) (n:Nat) (w:World) (hv:U32s w v l) (hn:n∈l) :
  Calls Tryz.prog 171 #[v,.int .u32 n] w fun e w'=>e=.returned v∧w=w':=by
 have hH:=refHas_any v l n w hv
 rw [decide_eq_true hn] at hH
 have C:=hid hH
 obtain ⟨A,c,rfl,-,-,-,-⟩:=hv.open_
 clear hH hn hv
 go_enter Tryz.func171,Tryz.ntmps171
 go_wp2_with (go_at_call 178;refine (C.out).mono ?_;rintro e w' ⟨rfl,rfl⟩)
 go_ret
 exact ⟨rfl,rfl⟩
theorem put_end {w w3:World} {v3:Value} {l:List Nat} {n k:Nat} (hown:w3.ownsRow w.heap.size 22 1 v3 (l.length+1) ([] ++ (l.take k).map (fun n:Nat=>Value.int .u32 n) ++ [.int .u32 n] ++ (l.drop k).map fun n:Nat=>Value.int .u32 n))
  (hb:Below w.heap.size w w3) (hp:put l n=l.take k ++ n :: l.drop k) (hk:k≤l.length):Gives32 22 (put l n) w (.returned v3) w3:=by
 refine ⟨v3,rfl,?_,hb⟩
 have e:(put l n).length=l.length+1:=by rw [hp];simp;omega
 rw [e,hp]
 simpa using hown
theorem put_at {l:List Nat} {n k:Nat} (hn:n ∉ l) (h:∀ y∈l.take k,y<n) (he:k=l.length∨∃ x,l[k]?=some x∧¬ x<n):put l n=l.take k ++ n :: l.drop k:=by
 have e:∀ (m:List Nat) (j:Nat),(∀ y∈m.take j,y<n)→(j=m.length∨∃ x,m[j]?=some x∧¬ x<n)→m.takeWhile (fun x=>decide (x<n))=m.take j∧m.dropWhile (fun x=>decide (x<n))=m.drop j:=by
  intro m
  induction m with
  | nil=>intro j _ _;simp
  | cons a m ih =>
   intro j h1 h2
   cases j with
   | zero =>
    rcases h2 with h2 | ⟨x,hx,hlt⟩
    ·simp at h2
    ·simp at hx
     subst hx
     simp [List.takeWhile,List.dropWhile,hlt]
   | succ j =>
    have ha:a<n:=h1 a (by simp)
    have:=ih j (fun y hy=>h1 y (by simp [hy])) (by simpa using h2)
    simp [List.takeWhile,List.dropWhile,ha,this]
 obtain ⟨e1,e2⟩:=e l k h he
 unfold put
 rw [if_neg hn,e1,e2]
theorem refPut_new (v : Value) (l : List Nat) (n : Nat) (w : World) (hv : U32s w v l) (hn : n ∉ l) (hlen : l.length ≤ 2000) :
    Calls Tryz.prog 171 #[v,.int .u32 n] w (Gives32 22 (put l n) w):=by
  have hH:=refHas_any v l n w hv
  rw [decide_eq_false hn] at hH
  have C:=hid hH
  obtain ⟨i,E⟩:=elem32
  have HV:=hid hv
  obtain ⟨A,c,rfl,hlc,hc,hl,hat⟩:=hv.open_
  have HN:=hid hn
  clear hH hn hl
  go_enter Tryz.func171,Tryz.ntmps171
  go_wp2_with (go_at_call 178;refine (C.out).mono ?_;rintro e w' ⟨rfl,rfl⟩)
  go_loop [5] (fun i=>∃ k:Nat,k≤l.length∧i=.int .i64 k∧∀ y∈l.take k,y<n) (fun i=>l.length - (intOf i).toNat)
  case atStart=>exact ⟨0,Nat.zero_le _,rfl,by simp⟩
  case round =>
    obtain ⟨k,hk,rfl,hno⟩:=hrel
    have HNo:=hid hno
    clear hno
    by_cases hlt:k<l.length
    · obtain ⟨b, off, x, rfl, hb, hx, hx32, hcell⟩ := hat k hlt
      have HX:=hid hx
      have HAT:=hid hat
      clear hx hat
      by_cases he:x<n
      · go_wp2
        go_round
        case rel => exact ⟨k + 1, by omega, by go_num, fun y hy => by
                      rw [List.take_add_one,HX.out] at hy
                      simp at hy
                      rcases hy with hy | hy
                      · exact HNo.out y hy
                      · omega⟩
        case measure=>simp [intOf];omega
      · have k0 : (0 : Int) ≤ (k : Int) := by omega
        have k1:(k:Int)≤(c:Int):=by omega
        have k2:(k:Int)≤(l.length:Int):=by omega
        have hR1:=(HV.out).1.prefix_ (k:=k) (by omega)
        rw [map_take] at hR1
        have hR2:=(HV.out).1.cut_at (k:=k) (by omega)
        rw [← List.map_drop] at hR2
        go_wp2
        go_region_held3 (fun w' => Below w.heap.size w w') (first | assumption | exact (Below.refl _ _).drew | exact Below.alloc (by assumption) (Below.size (by assumption)) _ | exact Below.drew (by assumption) | exact Below.refl _ _ | (trace_state; fail))
          (first
            | (refine step_append_row (by rfl) (.tmp 24) (.tmp 27) (by rfl) E w.heap.size _ 0 [] (by rfl) ?_ _ k ((l.take k).map fun n : Nat => Value.int .u32 n) (by rfl) ?_ (ones_u32 (l.take k)) ?_ ?_ ?_ k (Nat.zero_add k) ?_
               · exact own_blk (by simp) (by simp only [heap_dr,heap_al,Array.getElem?_push,Array.size_push];simp)
               · exact hR1.keep (by assumption)
               · unfold maxLen;omega
               · omega
               · simp;try omega
               intro A1 c1 w1 hown1 hg1 hat1 hb0
               have hb1:Below w.heap.size w w1:=Below.trans (by assumption) hb0
               clear hb0)
            | (refine step_append_row (by rfl) (.tmp 28) (.tmp 30) (by rfl) E w.heap.size (.slice A1 k c1) k _ (by rfl) hown1 _ 1 [.int .u32 n] (by rfl) ?_ (one_u32 _) ?_ ?_ hb1.size (k + 1) rfl ?_
               · refine one_blk (t := 22) ((hg1.block _ ?_ ?_).trans ?_)
                 · simp only [heap_dr,heap_al,Array.size_push];omega
                 · simp [Act.eval,Value.ownBlock];try omega
                 · simp only [heap_dr,heap_al,Array.getElem?_push,Array.size_push];simp
               · unfold maxLen;omega
               · omega
               intro A2 c2 w2 hown2 hg2 hat2 hb0
               have hb2:Below w.heap.size w w2:=Below.trans hb1 hb0
               clear hb0)
            | (refine step_append_row (by rfl) (.tmp 28) (.tmp 30) (by rfl) E w.heap.size (.slice A1 k c1) k _ (by rfl) (hown1.alloc _) _ 1 [.int .u32 n] (by rfl) ?_ (one_u32 _) ?_ ?_ ?_ (k + 1) rfl ?_
               · exact Row.one _ _ _
               · unfold maxLen;omega
               · omega
               · exact Nat.le_trans hb1.size (by simp)
               intro A2 c2 w2 hown2 hg2 hat2 hb0
               have hb2:Below w.heap.size w w2:=Below.trans (by assumption) hb0
               clear hb0)
            | (refine step_append_row (by rfl) (.tmp 31) (.tmp 34) (by rfl) E w.heap.size (.slice A2 (k + 1) c2) (k + 1) _ (by rfl) hown2 _ (l.length - k) ((l.drop k).map fun n : Nat => Value.int .u32 n) (by rfl) ?_ (ones_u32 (l.drop k)) ?_ ?_ hb2.size (l.length + 1) (by omega) ?_
               · exact hR2.keep hb2
               · unfold maxLen;omega
               · omega
               intro A3 c3 w3 hown3 hg3 hat3 hb0
               have hb3:Below w.heap.size w w3:=Below.trans hb2 hb0
               clear hb0))
        all_goals go_wp2
        all_goals go_ret
        all_goals exact put_end hown3 hb3 (put_at HN.out HNo.out (.inr ⟨x,HX.out,he⟩)) hk
    · have k0 : (0 : Int) ≤ (k : Int) := by omega
      have k1:(k:Int)≤(c:Int):=by omega
      have k2:(k:Int)≤(l.length:Int):=by omega
      have hR1:=(HV.out).1.prefix_ (k:=k) (by omega)
      rw [map_take] at hR1
      have hR2:=(HV.out).1.cut1 (k:=k) (by omega)
      rw [← List.map_drop] at hR2
      go_wp2
      go_region_held3 (fun w' => Below w.heap.size w w') (first | assumption | exact (Below.refl _ _).drew | exact Below.alloc (by assumption) (Below.size (by assumption)) _ | exact Below.drew (by assumption) | exact Below.refl _ _ | (trace_state; fail))
        (first
          | (refine step_append_row (by rfl) (.tmp 24) (.tmp 27) (by rfl) E w.heap.size _ 0 [] (by rfl) ?_ _ k ((l.take k).map fun n : Nat => Value.int .u32 n) (by rfl) ?_ (ones_u32 (l.take k)) ?_ ?_ ?_ k (Nat.zero_add k) ?_
             · exact own_blk (by simp) (by simp only [heap_dr,heap_al,Array.getElem?_push,Array.size_push];simp)
             · exact hR1.keep (by assumption)
             · unfold maxLen;omega
             · omega
             · simp;try omega
             intro A1 c1 w1 hown1 hg1 hat1 hb0
             have hb1:Below w.heap.size w w1:=Below.trans (by assumption) hb0
             clear hb0)
          | (refine step_append_row (by rfl) (.tmp 28) (.tmp 30) (by rfl) E w.heap.size (.slice A1 k c1) k _ (by rfl) hown1 _ 1 [.int .u32 n] (by rfl) ?_ (one_u32 _) ?_ ?_ hb1.size (k + 1) rfl ?_
             · refine one_blk (t := 22) ((hg1.block _ ?_ ?_).trans ?_)
               · simp only [heap_dr,heap_al,Array.size_push];omega
               · simp [Act.eval,Value.ownBlock];try omega
               · simp only [heap_dr,heap_al,Array.getElem?_push,Array.size_push];simp
             · unfold maxLen;omega
             · omega
             intro A2 c2 w2 hown2 hg2 hat2 hb0
             have hb2:Below w.heap.size w w2:=Below.trans hb1 hb0
             clear hb0)
          | (refine step_append_row (by rfl) (.tmp 28) (.tmp 30) (by rfl) E w.heap.size (.slice A1 k c1) k _ (by rfl) (hown1.alloc _) _ 1 [.int .u32 n] (by rfl) ?_ (one_u32 _) ?_ ?_ ?_ (k + 1) rfl ?_
             · exact Row.one _ _ _
             · unfold maxLen;omega
             · omega
             · exact Nat.le_trans hb1.size (by simp)
             intro A2 c2 w2 hown2 hg2 hat2 hb0
             have hb2:Below w.heap.size w w2:=Below.trans (by assumption) hb0
             clear hb0)
          | (refine step_append_row (by rfl) (.tmp 31) (.tmp 34) (by rfl) E w.heap.size (.slice A2 (k + 1) c2) (k + 1) _ (by rfl) hown2 _ (l.length - k) ((l.drop k).map fun n : Nat => Value.int .u32 n) (by rfl) ?_ (ones_u32 (l.drop k)) ?_ ?_ hb2.size (l.length + 1) (by omega) ?_
             · exact hR2.keep hb2
             · unfold maxLen;omega
             · omega
             intro A3 c3 w3 hown3 hg3 hat3 hb0
             have hb3:Below w.heap.size w w3:=Below.trans hb2 hb0
             clear hb0))
      all_goals go_wp2
      all_goals go_ret
      all_goals exact put_end hown3 hb3 (put_at HN.out HNo.out (.inl (by omega))) hk
end Nums
namespace Nums
open Go.RowKit Mem Rise
theorem length_put (l:List Nat) (n:Nat):(put l n).length≤l.length+1:=by
 unfold put
 split
 ·omega
 ·have e:=congrArg List.length (List.takeWhile_append_dropWhile (p:=fun x=>decide (x<n)) (l:=l))
  simp only [List.length_append,List.length_cons] at e ⊢
  omega
theorem length_setOf (l:List Nat):(setOf l).length≤l.length:=by
 induction hn:l.length generalizing l with
 | zero=>rw [List.length_eq_zero_iff.1 hn];simp [setOf]
 | succ n ih =>
  rcases List.eq_nil_or_concat l with rfl | ⟨m,c,rfl⟩
  ·simp at hn
  ·rw [List.concat_eq_append] at *
   rw [setOf_snoc]
   have:=length_put (setOf m) c
   have:=ih m (by simpa using hn)
   omega
theorem take_snoc {l:List Nat} {k x:Nat} (h:l[k]?=some x):l.take (k+1)=l.take k ++ [x]:=by rw [List.take_add_one,h];rfl
end Nums
namespace Nums
open Go.RowKit Mem Rise
def PutOwn (base:Nat) (l:List Nat) (n:Nat) (w:World) (e:Ending) (w':World):Prop :=
 ∃ v,e=.returned v∧w'.ownsRow base 22 1 v (put l n).length ((put l n).map fun n:Nat=>Value.int .u32 n)∧Below w.heap.size w w'
theorem refPut_own (base:Nat) (v:Value) (l:List Nat) (n:Nat) (w:World) (hown:w.ownsRow base 22 1 v l.length (l.map fun n:Nat=>Value.int .u32 n)) (hbase:base≤w.heap.size) (hl:∀ y∈l,y<4294967296) (hlen:l.length≤2000) :
  Calls Tryz.prog 171 #[v,.int .u32 n] w (PutOwn base l n w):=by
 have hv:=U32s.of_own hown hl
 by_cases hn:n∈l
 ·have e:put l n=l:=by unfold put;rw [if_pos hn]
  exact (refPut_same v l n w hv hn).mono fun _ _ ⟨he,hw⟩=>⟨v,he,by rw [e,← hw];exact hown,hw ▸ Below.refl _ _⟩
 ·exact (refPut_new v l n w hv hn hlen).mono fun _ _ ⟨v1,he,ho,hb⟩=>⟨v1,he,own_base ho hbase,hb⟩
theorem refSet_own (v:Value) (l:List Nat) (w:World) (hv:U32s w v l) (hlen:l.length≤1000) :
  Calls Tryz.prog 154 #[v] w (Gives32 22 (setOf l) w):=by
 have HV:=hid hv
 obtain ⟨A,c,rfl,hlc,hc,hl,hat⟩:=hv.open_
 have CP:=hid refPut_own
 have HL:=hid hl
 clear hl hat hv
 have h0:(w.alloc (.cells #[] 22)).ownsRow w.heap.size 22 1 (.slice (some ⟨w.heap.size,0,none⟩) 0 0) 0 []:=own_blk (Nat.le_refl _) (heap_alloc_new _ _)
 go_enter Tryz.func154,Tryz.ntmps154
 go_wp2
 go_loopw [3,4] (fun v i wr=>∃ k:Nat,k≤l.length∧i=.int .i64 k∧wr.ownsRow w.heap.size 22 1 v (setOf (l.take k)).length ((setOf (l.take k)).map fun n:Nat=>Value.int .u32 n)∧Below w.heap.size w wr) (fun _ i _=>l.length - (intOf i).toNat)
 case atStart=>exact ⟨0,Nat.zero_le _,rfl,by simpa [setOf] using h0,(Below.refl _ _).alloc (Nat.le_refl _) _⟩
 case round =>
  obtain ⟨k,hk,rfl,hs,hb⟩:=hrel
  by_cases hlt:k<l.length
  ·obtain ⟨b,off,x,rfl,hbw,hx,hx32,hcell⟩:=((HV.out).keep hb).at_ hlt
   have HX:=hid (take_snoc hx)
   have hlk:(setOf (l.take k)).length≤2000:=by
    have:=length_setOf (l.take k)
    have:(l.take k).length≤l.length:=List.length_take_le' _ _
    omega
   have C:=hid (CP.out w.heap.size _ _ x wr hs hb.size (fun y hy=>HL.out y (List.mem_of_mem_take ((mem_setOf _ y).1 hy))) hlk)
   clear hx hlk
   go_wp2_with (go_at_call 171;refine (C.out).mono ?_;rintro e w1 ⟨v1,rfl,hs1,hb1⟩)
   go_roundw
   case rel=>exact ⟨k+1,by omega,by go_num,by rw [HX.out,setOf_snoc];exact hs1,hb.trans (hb1.mono hb.size)⟩
   case measure=>simp [intOf];omega
  ·have HK:=hid (show k=l.length by omega)
   go_wp2
   go_ret
   exact ⟨_,rfl,by have:=hs;rw [HK.out,List.take_length] at this;exact this,hb⟩
end Nums
namespace Nums
open Go.RowKit Mem Rise
theorem eq_snoc {a b:List Nat} {k:Nat} (h:a.take k=b.take k) (he:a[k]?=b[k]?):a.take (k+1)=b.take (k+1):=by
 rw [List.take_add_one,List.take_add_one,h,he]
theorem refSame_any (va vb:Value) (a b:List Nat) (w:World) (ha:U32s w va a) (hb:U32s w vb b) :
  Calls Tryz.prog 121 #[va,vb] w (Tells (.bool (decide (a=b))) w):=by
 have HA:=hid ha
 have HB:=hid hb
 obtain ⟨A,c,rfl,hlc,hc,-,-⟩:=ha.open_
 obtain ⟨B,d,rfl,hld,hd,-,-⟩:=hb.open_
 clear ha hb
 by_cases hl:a.length=b.length
 ·have ht:((a.length:Int) != (b.length:Int))=false:=by rw [hl];simp
  have h1:a.length≤b.length:=by omega
  have h2:b.length≤a.length:=by omega
  clear hl
  go_enter Tryz.func121,Tryz.ntmps121
  go_wp2
  go_loopw [5] (fun i wr=>∃ k q:Nat,k≤a.length∧i=.int .i64 k∧Hid (a.take k=b.take k)∧wr=w.drewN q) (fun i _=>a.length - (intOf i).toNat)
  case atStart=>exact ⟨0,0,Nat.zero_le _,rfl,by unfold Hid;simp,rfl⟩
  case round =>
   obtain ⟨k,q,hk,rfl,hs,rfl⟩:=hrel
   by_cases hlt:k<a.length
   ·obtain ⟨b0,off,x,rfl,hb0,hx,hx32,hcell⟩:=(HA.out).at_ hlt
    obtain ⟨b1,off1,y,rfl,hb1,hy,hy32,hcell1⟩:=(HB.out).at_ (k:=k) (by omega)
    have k0:(0:Int)≤(k:Int):=by omega
    have k1:(k:Int)<(a.length:Int):=by omega
    have k2:(k:Int)<(b.length:Int):=by omega
    by_cases he:x=y
    ·subst he
     have HE:=hid (eq_snoc hs.out (hx.trans hy.symm))
     clear hx hy
     go_wp2
     go_quiet (fail)
     all_goals go_wp2
     all_goals go_roundw
     case rel=>exact ⟨k+1,_,by omega,by go_num,HE,rfl⟩
     case measure=>simp [intOf];omega
    ·have hne:((x:Int) != (y:Int))=true:=by simp;omega
     have HN:=hid (show ¬ a=b by
      intro e
      rw [e,hy] at hx
      injection hx with hx
      exact he hx.symm)
     clear hx hy he
     go_wp2
     go_quiet (fail)
     all_goals go_wp2
     all_goals go_ret
     all_goals exact ⟨ret_bool (decide_eq_false HN.out).symm,Below.tr (below_drewN _ _) (below_drewN _ _)⟩
   ·have HK:=hid (show a=b by
     have:=hs.out
     rwa [List.take_of_length_le (by omega),List.take_of_length_le (by omega)] at this)
    go_wp2
    go_ret
    exact ⟨ret_bool (decide_eq_true HK.out).symm,below_drewN _ _⟩
 ·have ht:((a.length:Int) != (b.length:Int))=true:=by simp;omega
  have HN:=hid (show ¬ a=b from fun e=>hl (by rw [e]))
  clear hl
  go_enter Tryz.func121,Tryz.ntmps121
  go_wp2
  go_ret
  exact ⟨ret_bool (decide_eq_false HN.out).symm,Below.refl _ _⟩
theorem rising_take {l:List Nat} {k:Nat} (hk:1≤k) {x y:Nat} (hx:l[k - 1]?=some x) (hy:l[k]?=some y) (h:rising (l.take k)):rising (l.take (k+1)) ↔ x<y:=by
 have e1:l.take k=l.take (k - 1) ++ [x]:=by
  have:=take_snoc hx
  rwa [show k - 1+1=k by omega] at this
 rw [take_snoc hy,e1]
 rw [e1] at h
 unfold rising at h ⊢
 rw [List.pairwise_append] at h ⊢
 constructor
 ·intro h2
  exact h2.2.2 x (by simp) y (by simp)
 ·intro hxy
  refine ⟨List.pairwise_append.2 h,by simp,fun z hz u hu=>?_⟩
  simp only [List.mem_singleton] at hu
  subst hu
  rcases List.mem_append.1 hz with hz | hz
  ·exact Nat.lt_trans (h.2.2 z hz x (by simp)) hxy
  ·rw [List.mem_singleton.1 hz];exact hxy
theorem rising_sub {l:List Nat} (k:Nat) (h:rising l):rising (l.take k):=List.Pairwise.sublist (List.take_sublist k l) h
end Nums
namespace Seg
open Go.RowKit Mem Rise Nums Segm
theorem elemSeg:∃ i,IsElem Tryz.prog 26 108 2 32 i (.agg #[.int .i64 0,.slice none 0 0]):=IsElem.mk_ Tryz.underlying26 (by kernel_rfl) rfl (by decide)
theorem cells_two (k:Int) (x:Value) (l:List Nat):segCells [(k,l)] [x]=[.int .i64 k,x]:=rfl
theorem ones_two (k:Int) (A:Option Addr) (n c:Nat):∀ u∈[Value.int .i64 k,Value.slice A n c],u.oneCell'=true:=fun u hu=>by
 simp only [List.mem_cons,List.not_mem_nil,or_false] at hu
 rcases hu with rfl | rfl <;> rfl
def NoRoom (w:World) (A:Option Addr) (L:Nat):Prop :=
 L=0∨∃ b off k0,A=some ⟨b,off,none⟩∧1≤L∧b<w.heap.size∧w.cell? ⟨b,off+(L - 1)*2,none⟩=some (.int .i64 k0) ∧
  (k0≠2∨∃ B m cc,k0=2∧255≤m∧m≤cc∧cc≤9223372036854775807∧w.cell? ⟨b,off+(L - 1)*2+1,none⟩=some (.slice B m cc))
theorem noRoom_of {w:World} {A:Option Addr} {L c:Nat} {p:List Piece} (h:Segs w (.slice A L c) p) (hk:p=[]∨∃ f s,p=f ++ [s]∧¬ (s.1=2∧s.2.length<255)):NoRoom w A L:=by
 obtain ⟨A',c',e,_,_⟩:=h.form
 injection e with _ e2 _
 rcases hk with rfl | ⟨f,s,rfl,hn⟩
 ·exact .inl e2
 ·have hL:L=f.length+1:=by rw [e2];simp
  obtain ⟨b,off,x,h1,h2,h3,h4,h5⟩:=h.at_ (k:=f.length) (s:=s) (by simp)
  refine .inr ⟨b,off,s.1,h1,by omega,h2,by rw [hL];exact h3,?_⟩
  by_cases h6:s.1=2
  ·obtain ⟨B,cc,rfl,g1,g2,_⟩:=h5.open_
   exact .inr ⟨B,s.2.length,cc,h6,by
    rcases Nat.lt_or_ge s.2.length 255 with h | h
    ·exact absurd ⟨h6,h⟩ hn
    ·exact h,g1,g2,by rw [hL];exact h4⟩
  ·exact .inl h6
theorem own_other {w:World} {base:Nat} {t:TypeId} {size:Nat} {v:Value} {n:Nat} {xs:List Value} {B:Nat} (h:w.ownsRow base t size v n xs) (hB:B=w.heap.size):some B≠v.ownBlock:=fun e=>by
 have:=(h.lt B e.symm).2
 omega
end Seg
namespace Seg
open Go.RowKit Mem Rise Nums Segm
theorem norm_seq {p:List Piece} {i:Nat} {s:Piece} (h:p[i]?=some s) (hk:s.1=2):normS (p.take (i+1))=putsS (normS (p.take i)) s.2:=by
 rw [take_one h,normS_snoc];unfold normOne;rw [if_pos hk]
theorem norm_set {p:List Piece} {i:Nat} {s:Piece} (h:p[i]?=some s) (hk:s.1=1) (hn:s.2≠[]):normS (p.take (i+1))=normS (p.take i) ++ [(1,setOf s.2)]:=by
 rw [take_one h,normS_snoc];unfold normOne;rw [if_neg (by omega),if_pos ⟨hk,hn⟩]
theorem norm_none {p:List Piece} {i:Nat} {s:Piece} (h:p[i]?=some s) (hk:s.1≠2) (hn:¬ (s.1=1∧s.2≠[])):normS (p.take (i+1))=normS (p.take i):=by
 rw [take_one h,normS_snoc];unfold normOne;rw [if_neg hk,if_neg hn]
end Seg
namespace Seg
open Go.RowKit Mem Rise Nums Segm
end Seg
namespace Nums
open Go.RowKit Mem Rise
theorem is_any (v:Value) (l:List Nat) (w:World) (hv:U32s w v l):Calls Tryz.prog 118 #[v] w (Tells (.bool (decide (rising l))) w):=by
 have HV:=hid hv
 obtain ⟨A,c,rfl,hlc,hc,-,-⟩:=hv.open_
 clear hv
 go_enter Tryz.func118,Tryz.ntmps118
 go_wp2
 go_loopw [3] (fun i wr=>∃ k q:Nat,1≤k∧k≤l.length+1∧i=.int .i64 k∧Hid (rising (l.take k))∧wr=w.drewN q) (fun i _=>l.length+1 - (intOf i).toNat)
 case atStart=>exact ⟨1,0,Nat.le_refl _,by omega,rfl,by unfold Hid rising;cases l with
  | nil=>simp
  | cons a m=>simp,rfl⟩
 case round =>
  obtain ⟨k,q,hk1,hk,rfl,hs,rfl⟩:=hrel
  by_cases hlt:k<l.length
  ·obtain ⟨b0,off,x,rfl,hb0,hx,hx32,hcell⟩:=(HV.out).at_ (k:=k - 1) (by omega)
   obtain ⟨b1,off1,y,he,hb1,hy,hy32,hcell1⟩:=(HV.out).at_ (k:=k) (by omega)
   injection he with he
   injection he with h1 h2
   subst h1 h2
   have k0:(0:Int)≤(k:Int) - 1:=by omega
   have k1:(k:Int)<(l.length:Int):=by omega
   have k3:(1:Int)≤(k:Int):=by omega
   have HR:=hid (rising_take hk1 hx hy hs.out)
   clear hx hy
   by_cases hxy:x<y
   ·have ht:decide ((y:Int)≤(x:Int))=false:=by simp;omega
    go_wp2
    go_quiet (fail)
    all_goals go_wp2
    all_goals go_roundw
    case rel=>exact ⟨k+1,_,by omega,by omega,by go_num,(HR.out).2 hxy,rfl⟩
    case measure=>simp [intOf];omega
   ·have ht:decide ((y:Int)≤(x:Int))=true:=by simp;omega
    have HN:=hid (show ¬ rising l from fun h=>hxy ((HR.out).1 (rising_sub _ h)))
    go_wp2
    go_quiet (fail)
    all_goals go_wp2
    all_goals go_ret
    all_goals exact ⟨ret_bool (decide_eq_false HN.out).symm,Below.tr (below_drewN _ _) (below_drewN _ _)⟩
  ·have HK:=hid (show rising l by
    have:=hs.out
    rwa [List.take_of_length_le (by omega)] at this)
   go_wp2
   go_ret
   exact ⟨ret_bool (decide_eq_true HK.out).symm,below_drewN _ _⟩
end Nums
namespace Nums
open Go.RowKit Mem Rise
end Nums
end Go.Proofs.YtjfmompgkkdliaaGreatDoor
