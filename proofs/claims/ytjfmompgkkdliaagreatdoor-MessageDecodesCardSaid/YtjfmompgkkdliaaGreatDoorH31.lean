/- Part of the proof. -/
import Derived.Test.YtjfmompgkkdliaaGreatDoorH27
import Derived.Test.YtjfmompgkkdliaaGreatDoorH28
import Derived.Test.YtjfmompgkkdliaaGreatDoorH29
import Derived.Test.YtjfmompgkkdliaaGreatDoorH30
import Derived.Sort.AssemblyPlain
import Derived.Deep.DeepCutAuto
open Go.Lib (hid)
set_option maxRecDepth 100000
set_option maxHeartbeats 40000000
namespace Go.Proofs.YtjfmompgkkdliaaGreatDoor
namespace Srt
open Go.RowKit Go.Sort
def Left (blk off:Nat) (d':Array Nat) (w w':World):Prop:=Holds encN w' blk off d'∧RowKit.Below blk w w'
def Ends (blk off:Nat) (Q:Array Nat→Prop) (w:World) (e:Ending) (w':World):Prop:=e=.returned (.tuple #[])∧∃ d',Hid (Q d')∧Hid (Left blk off d' w w')
abbrev Ordered (a b:Nat) (d d':Array Nat):Prop:=PermIn a b d d'∧SortedIn ltN a b d'
def Picked (blk off a b:Nat) (d:Array Nat) (w:World) (e:Ending) (w':World):Prop:=∃ (p h:Nat),e=.returned (.tuple #[.int .i64 p,.int .i64 h])∧(a<p∧p<b∧(h=2→p+1<b))∧h≤2∧Hid (Left blk off d w w')
def Told (blk off a b:Nat) (d:Array Nat) (w:World) (e:Ending) (w':World):Prop:=∃ (r:Bool) (d':Array Nat),e=.returned (.bool r)∧Hid (PermIn a b d d')∧Hid (r=true→SortedIn ltN a b d')∧Hid (Left blk off d' w w')
theorem left_put {blk off n:Nat} {d d':Array Nat} {w:World} (hH:Holds encN w blk off d) (hs:d'.size=d.size):Left blk off d' w (putRow encN (Sort.ahead w n) blk off d') :=
 ⟨holds_putRow _ _ _ _ _ _ (holds_ahead _ _ _ _ _ _ hH) hs,below_row _ _ _ _ _⟩
theorem puts_ends {blk off:Nat} {d d':Array Nat} {w w':World} {e:Ending} {Q:Array Nat→Prop} (hH:Holds encN w blk off d) (hs:d'.size=d.size) (hQ:Q d') (h:Puts blk off d' w e w'):Ends blk off Q w e w':=by
 obtain ⟨he,n,rfl⟩:=h
 exact ⟨he,d',hQ,left_put hH hs⟩
theorem insertion_ends (blk off cap a b len:Nat) (d:Array Nat) (w:World) (hl:d.size=len) (hH:Holds encN w blk off d) (hab:a≤b) (hb:b≤len) (hsz:len<1000000000) :
  Calls Tryz.prog 182 #[.slice (some ⟨blk,off,none⟩) len cap,.int .i64 a,.int .i64 b] w (Ends blk off (Ordered a b d) w):=by
 subst hl
 have h:=insertionSort_holds swoN d a b hab hb
 exact (insertion_any blk off cap a b d w hH hab hb (by omega)).mono fun _ _ hp=>puts_ends hH h.1.1 h hp
theorem heap_ends (blk off cap a b len:Nat) (d:Array Nat) (w:World) (hl:d.size=len) (hH:Holds encN w blk off d) (hab:a≤b) (hb:b≤len) (hsz:len<1000000000) :
  Calls Tryz.prog 183 #[.slice (some ⟨blk,off,none⟩) len cap,.int .i64 a,.int .i64 b] w (Ends blk off (Ordered a b d) w):=by
 subst hl
 have h:=heapSort_holds swoN d a b hab hb
 exact (heap_any blk off cap a b d w hH hab hb hsz).mono fun _ _ hp=>puts_ends hH h.1.1 h hp
theorem shake_ends (blk off cap a b len:Nat) (d:Array Nat) (w:World) (hl:d.size=len) (hH:Holds encN w blk off d) (hab:a+12<b) (hb:b≤len) (hsz:len<5000) (hblk:blk<w.heap.size) :
  Calls Tryz.prog 184 #[.slice (some ⟨blk,off,none⟩) len cap,.int .i64 a,.int .i64 b] w (Ends blk off (PermIn a b d) w):=by
 subst hl
 exact (shake_any blk off cap a b d w hH hab hb (by omega) (by omega) hblk).mono fun _ _ ⟨he,d',h1,h2,h3⟩=>⟨he,d',h1,h2,h3⟩
theorem choose_ends (blk off cap a b len:Nat) (d:Array Nat) (w:World) (hl:d.size=len) (hH:Holds encN w blk off d) (hab:a+12<b) (hb:b≤len) (hsz:len<5000) (hblk:blk<w.heap.size) :
  Calls Tryz.prog 185 #[.slice (some ⟨blk,off,none⟩) len cap,.int .i64 a,.int .i64 b] w
   (Picked blk off a b d w):=by
 subst hl
 exact (choose_any blk off cap a b d w hH hab hb (by omega) hblk).mono fun _ _ ⟨p,h,he,h1,h2,h3⟩=>⟨p,h,he,h1,h2,holds_below hH h3 hblk,h3.mono (by omega)⟩
theorem partial_ends (blk off cap a b len:Nat) (d:Array Nat) (w:World) (hl:d.size=len) (hH:Holds encN w blk off d) (hab:a<b) (hb:b≤len) (hsz:len<5000) (hB:Sort.Below ltN a b d) :
  Calls Tryz.prog 187 #[.slice (some ⟨blk,off,none⟩) len cap,.int .i64 a,.int .i64 b] w
   (Told blk off a b d w):=by
 subst hl
 by_cases h:b<a+50
 ·exact (partial_any blk off cap a b d w hH hab hb h (by omega)).mono fun _ _ ⟨r,he,h1,n,hw⟩=>⟨r,d,he,permIn_refl _ _ _,h1,by unfold Hid;rw [hw];exact left_put hH rfl⟩
 ·have hp:=partialInsertionSort_holds swoN d a b hab hb hB
  exact (partial_long blk off cap a b d w hH hb (by omega) (by omega)).mono fun _ _ ⟨he,n,hw⟩=>⟨_,_,he,hp.1,hp.2,by unfold Hid;rw [hw];exact left_put hH hp.1.1⟩
theorem reverse_ends (blk off cap a b len:Nat) (d:Array Nat) (w:World) (hl:d.size=len) (hH:Holds encN w blk off d) (hab:a<b) (hb:b≤len) (hsz:len<5000) :
  Calls Tryz.prog 186 #[.slice (some ⟨blk,off,none⟩) len cap,.int .i64 a,.int .i64 b] w (Ends blk off (PermIn a b d) w):=by
 subst hl
 have h:=reverseRange_holds d a b (Nat.le_of_lt hab) hb
 exact (reverse_any blk off cap a b d w hH hab hb (by omega)).mono fun _ _ hp=>puts_ends hH h.1 h hp
theorem size_equal {a b pivot:Nat} {d:Array Nat}:(partitionEqual ltN d a b pivot).2.size=d.size:=by
 have h:∀ (i j:Nat) (d:Array Nat),(partEqLoop ltN a i j d).2.size=d.size:=by
  intro i j d
  fun_induction partEqLoop ltN a i j d <;> simp_all [size_swp]
 unfold partitionEqual
 rw [h,size_swp]
theorem equal_ends (blk off cap a b pivot len:Nat) (d:Array Nat) (w:World) (hl:d.size=len) (hH:Holds encN w blk off d) (hap:a<pivot) (hpb:pivot<b) (hb:b≤len) (hsz:len<5000) :
  Calls Tryz.prog 189 #[.slice (some ⟨blk,off,none⟩) len cap,.int .i64 a,.int .i64 b,.int .i64 pivot] w
   (fun e w'=>∃ (mid:Nat) (d4:Array Nat),e=.returned (.int .i64 mid)∧Hid (partitionEqual ltN d a b pivot=(mid,d4))∧Hid (Left blk off d4 w w')):=by
 subst hl
 exact (equal_part blk off cap a b pivot d w hH hap hpb hb (by omega)).mono fun _ _ ⟨he,n,hw⟩=>⟨_,_,he,rfl,by unfold Hid;rw [hw];exact left_put hH size_equal⟩
theorem split_ends (blk off cap a b pivot len:Nat) (d:Array Nat) (w:World) (hl:d.size=len) (hH:Holds encN w blk off d) (hap:a<pivot) (hpb:pivot<b) (hb:b≤len) (hsz:len<5000) :
  Calls Tryz.prog 190 #[.slice (some ⟨blk,off,none⟩) len cap,.int .i64 a,.int .i64 b,.int .i64 pivot] w
   (fun e w'=>∃ (mid:Nat) (ap:Bool) (d4:Array Nat),e=.returned (.tuple #[.int .i64 mid,.bool ap])∧Hid (partition ltN d a b pivot=(mid,ap,d4))∧Hid (Left blk off d4 w w')):=by
 subst hl
 have h:=(partition_holds ltN swoN d a b pivot (by omega) hpb hb).2.2.1.1
 exact (split_part blk off cap a b pivot d w hH hap hpb hb (by omega)).mono fun _ _ ⟨he,n,hw⟩=>⟨_,_,_,he,rfl,by unfold Hid;rw [hw];exact left_put hH h⟩
end Srt
namespace Srt
open Go.RowKit Go.Sort
def St (blk off len a b:Nat) (d:Array Nat) (w:World) (x y:Nat) (dk:Array Nat) (wr:World):Prop :=
 dk.size=len∧Sort.Below ltN x y dk∧(∀ R,PermIn x y dk R→SortedIn ltN x y R→Ordered a b d R)∧Left blk off dk w wr
section
variable {blk off len a b x y:Nat} {d dk d1:Array Nat} {w wr w1:World}
theorem St.turn (h:St blk off len a b d w x y dk wr) (hy:y≤len) (hp:PermIn x y dk d1) (hL:Left blk off d1 wr w1):St blk off len a b d w x y d1 w1 :=
 ⟨hp.1.trans h.1,h.2.1.perm (by rw [h.1];exact hy) hp,fun R h1 h2=>h.2.2.1 R (permIn_trans _ _ _ x y hp h1) h2,hL.1,h.2.2.2.2.trans hL.2⟩
theorem St.same (h:St blk off len a b d w x y dk wr) (hL:Left blk off dk wr w1):St blk off len a b d w x y dk w1 :=
 ⟨h.1,h.2.1,h.2.2.1,hL.1,h.2.2.2.2.trans hL.2⟩
theorem St.drawn (h:St blk off len a b d w x y dk wr) (n:Nat):St blk off len a b d w x y dk (wr.drewN n) :=
 h.same ⟨holds_below h.2.2.2.1 (below_drewN (blk+1) wr n) (Nat.lt_succ_self _),below_drewN _ _ _⟩
theorem St.done (h:St blk off len a b d w x y dk wr) (hq:Ordered x y dk d1) (hL:Left blk off d1 wr w1):Ends blk off (Ordered a b d) w (.returned (.tuple #[])) w1 :=
 ⟨rfl,d1,h.2.2.1 _ hq.1 hq.2,hL.1,h.2.2.2.2.trans hL.2⟩
theorem St.size (h:St blk off len a b d w x y dk wr) (hb:blk<w.heap.size):blk<wr.heap.size:=by have:=h.2.2.2.2.size;omega
theorem St.equal {p mid:Nat} {d4:Array Nat} (h:St blk off len a b d w x y dk wr) (hx0:0<x) (h1:x<p) (h2:p<y) (hy:y≤len) (hnl:ltN dk[x - 1]! dk[p]! = false) (hx:partitionEqual ltN dk x y p=(mid,d4)) (hL:Left blk off d4 wr w1) :
  x<mid∧mid≤y∧St blk off len a b d w mid y d4 w1:=by
 obtain ⟨g1,g2,g3,g4,g5⟩:=round_eq swoN (partitionEqual_holds ltN) hx0 (by omega) h2 (by rw [h.1];exact hy) h.2.1 hnl hx
 exact ⟨g1,g2,g3.trans h.1,g4,fun R r1 r2=>h.2.2.1 R (g5 R r1 r2).1 (g5 R r1 r2).2,hL.1,h.2.2.2.2.trans hL.2⟩
theorem St.split {p mid:Nat} {ap:Bool} {d4:Array Nat} (h:St blk off len a b d w x y dk wr) (h1:x<p) (h2:p<y) (hy:y≤len) (hx:partition ltN dk x y p=(mid,ap,d4)) (hL:Left blk off d4 wr w1) :
  x≤mid∧mid<y∧Hid (d4.size=len∧Sort.Below ltN x mid d4∧Sort.Below ltN (mid+1) y d4) ∧
  Hid (∀ L w2,Ordered x mid d4 L→Left blk off L w1 w2→St blk off len a b d w (mid+1) y L w2)∧Hid (∀ L w2,Ordered (mid+1) y d4 L→Left blk off L w1 w2→St blk off len a b d w x mid L w2):=by
 obtain ⟨g1,g2,g3,g4,g5,g6,g7⟩:=round_part swoN (partition_holds ltN) (by omega) h2 (by rw [h.1];exact hy) h.2.1 hx
 refine ⟨g1,g2,⟨g3.trans h.1,g4,g5⟩,fun L w2 q hl=>?_,fun L w2 q hl=>?_⟩
 ·obtain ⟨k1,k2⟩:=g6 L q.1 q.2
  exact ⟨q.1.1.trans (g3.trans h.1),k1,fun R r1 r2=>h.2.2.1 R (k2 R r1 r2).1 (k2 R r1 r2).2,hl.1,(h.2.2.2.2.trans hL.2).trans hl.2⟩
 ·obtain ⟨k1,k2⟩:=g7 L q.1 q.2
  exact ⟨q.1.1.trans (g3.trans h.1),k1,fun R r1 r2=>h.2.2.1 R (k2 R r1 r2).1 (k2 R r1 r2).2,hl.1,(h.2.2.2.2.trans hL.2).trans hl.2⟩
end
theorem pdq_any (blk off cap len:Nat) (hsz:len<5000):∀ (n a b limit:Nat) (d:Array Nat) (w:World),b - a<n→d.size=len→Holds encN w blk off d→a≤b→b≤len→Sort.Below ltN a b d→blk<w.heap.size→limit≤1000 →
  Calls Tryz.prog 180 #[.slice (some ⟨blk,off,none⟩) len cap,.int .i64 a,.int .i64 b,.int .i64 limit] w (Ends blk off (Ordered a b d) w):=by
 intro n
 induction n with
 | zero=>intro a b limit d w hn;omega
 | succ n ih =>
  intro a b limit d w hn hs hH hab hb hB hblk hlim
  have IH:=hid ih
  have CI:=hid (insertion_ends blk off cap)
  have CH:=hid (heap_ends blk off cap)
  have CS:=hid (shake_ends blk off cap)
  have CC:=hid (choose_ends blk off cap)
  have CP:=hid (partial_ends blk off cap)
  have CR:=hid (reverse_ends blk off cap)
  have CE:=hid (equal_ends blk off cap)
  have CT:=hid (split_ends blk off cap)
  have CL:=hid less_q
  have S0:=hid (show St blk off len a b d w a b d w from ⟨hs,hB,fun R h1 h2=>⟨h1,h2⟩,hH,RowKit.Below.refl _ _⟩)
  clear ih hs hH hB
  go_enter Tryz.func180,Tryz.ntmps180
  go_wp2
  go_loopw [1,2,3,8,9] (fun va vb vl v8 v9 wr=>∃ (x y l:Nat) (p q:Bool) (dk:Array Nat),va=.int .i64 x∧vb=.int .i64 y∧vl=.int .i64 l∧v8=.bool p∧v9=.bool q∧x≤y∧y≤len∧l≤1000∧Hid (y - x≤n)∧Hid (St blk off len a b d w x y dk wr)) (fun va vb _ _ _ _=>(intOf vb).toNat - (intOf va).toNat)
  case atStart=>exact ⟨a,b,limit,true,true,d,rfl,rfl,rfl,rfl,rfl,hab,hb,hlim,by unfold Hid;omega,S0.out⟩
  case round =>
   clear hn hab hb hlim
   obtain ⟨x,y,l,p,q,dk,rfl,rfl,rfl,rfl,rfl,hxy,hy,hl,hn,S⟩:=hrel
   by_cases h12:y - x≤12
   ·have h12i:(y:Int) - (x:Int)≤12:=by omega
    go_wp2_with (go_at_call 182;refine (CI.out x y len dk wr S.out.1 S.out.2.2.2.1 hxy hy (by omega)).mono ?_)
    rintro e w1 ⟨rfl,d1,hq,hL⟩
    go_wp2
    refine bodyPost_ret (results_none rfl _ _ _) rfl ?_
    exact S.out.done hq.out hL.out
   have h12i:¬ (y:Int) - (x:Int)≤12:=by omega
   by_cases hl0:l=0
   ·subst hl0
    go_wp2_with (go_at_call 183;refine (CH.out x y len dk wr S.out.1 S.out.2.2.2.1 hxy hy (by omega)).mono ?_)
    rintro e w1 ⟨rfl,d1,hq,hL⟩
    go_wp2
    refine bodyPost_ret (results_none rfl _ _ _) rfl ?_
    exact S.out.done hq.out hL.out
   have hl1:1≤l:=by omega
   have hxy12:x+12<y:=by omega
   go_upto_region 7 with fail
   go_cut [35] from 19 to 133 (fun s35 wx=>∃ g:Bool,s35=.bool g∧wx=wr)
   case first =>
    go_wp2
    go_meet
    exact ⟨_,rfl,rfl⟩
   case rest =>
   obtain ⟨g0,rfl,rfl⟩:=hcut
   rename_i HKK
   refine HKK _ _ ?_
   go_cut [3] from 19 to 133 (fun s3 wx=>∃ (l1:Nat) (d1:Array Nat),s3=.int .i64 l1∧l1≤1000∧Hid (St blk off len a b d w x y d1 wx))
   case first =>
    cases g0
    rotate_left
    ·have el:((l:Int) - 1)=((l - 1:Nat):Int):=by omega
     go_wp2_with (go_at_call 184;refine (CS.out x y len dk _ S.out.1 S.out.2.2.2.1 hxy12 hy hsz (S.out.size hblk)).mono ?_)
     rintro e w1 ⟨rfl,d1,hq,hL⟩
     have S1:=hid (S.out.turn hy hq.out hL.out)
     clear hq hL
     go_wp2
     go_meet
     exact ⟨l - 1,d1,rfl,by omega,S1⟩
    ·go_wp2
     go_meet
     exact ⟨l,dk,rfl,hl,S⟩
   case rest =>
   obtain ⟨l1,d1,rfl,hl2,S1⟩:=hcut
   clear S hl hl0 hl1
   go_upto_region 10 with fail
   go_cut [11,12] from 19 to 133 (fun s11 s12 wx=>∃ (pv:Nat) (hint:Nat),s11=.int .i64 pv∧s12=.int .i64 hint∧Hid (x<pv∧pv<y∧(hint=2→y - 1 - (pv - x)<y∧x<y - 1 - (pv - x)))∧Hid (St blk off len a b d w x y d1 wx))
   case first =>
    go_wp2_with (go_at_call 185;refine (CC.out x y len d1 _ S1.out.1 S1.out.2.2.2.1 hxy12 hy hsz (S1.out.size hblk)).mono ?_)
    rintro e w2 ⟨pv,hint,rfl,⟨hpv1,hpv2,hpv3⟩,hh,hL2⟩
    have S2:=hid (S1.out.same hL2.out)
    have HP:=hid (show x<pv∧pv<y∧(hint=2→y - 1 - (pv - x)<y∧x<y - 1 - (pv - x)) from ⟨hpv1,hpv2,fun h=>by have:=hpv3 h;omega⟩)
    clear hL2 hpv3
    go_wp2
    go_meet
    exact ⟨pv,_,rfl,rfl,HP,S2⟩
   case rest =>
   obtain ⟨pv,hint,rfl,rfl,HP,S2⟩:=hcut
   have hpv1:=HP.out.1
   have hpv2:=HP.out.2.1
   clear S1
   go_upto_region 11 with fail
   go_cut [50] from 19 to 133 (fun s50 wx=>∃ g:Bool,s50=.bool g∧Hid (g=((hint:Int) == 2))∧wx=wc)
   case first =>
    go_wp2
    go_meet
    exact ⟨_,rfl,hid rfl,rfl⟩
   case rest =>
   obtain ⟨g2,rfl,HG2,rfl⟩:=hcut
   rename_i HKK
   refine HKK _ _ ?_
   go_cut [11,12] from 19 to 133 (fun s11 s12 wx=>∃ (pz:Nat) (hi:Int) (d7:Array Nat),s11=.int .i64 pz∧s12=.int .i64 hi∧x<pz∧pz<y∧Hid (St blk off len a b d w x y d7 wx))
   case first =>
    cases g2
    rotate_left
    ·have hp3:=HP.out.2.2 (by have:=HG2.out.symm;rw [beq_iff_eq] at this;omega)
     obtain ⟨pz,hpz⟩:∃ pz:Nat,pz=y - 1 - (pv - x):=⟨_,rfl⟩
     have epz:((y:Int) - 1 - ((pv:Int) - (x:Int)))=(pz:Int):=by omega
     have hpq:x<pz∧pz<y:=by omega
     clear hpz
     go_wp2_with (go_at_call 186;refine (CR.out x y len d1 _ S2.out.1 S2.out.2.2.2.1 (by omega) hy hsz).mono ?_)
     rintro e w7 ⟨rfl,d7,hq7,hL7⟩
     have S7:=hid (S2.out.turn hy hq7.out hL7.out)
     clear hq7 hL7
     go_wp2
     go_meet
     exact ⟨pz,_,d7,rfl,rfl,hpq.1,hpq.2,S7⟩
    ·go_wp2
     go_meet
     exact ⟨pv,_,d1,rfl,rfl,hpv1,hpv2,S2⟩
   case rest =>
   obtain ⟨pz,hi,d7,rfl,rfl,hp1,hp2,S7⟩:=hcut
   clear S2 hpv1 hpv2 HP
   go_upto_region 15 with fail
   go_cut [68] from 19 to 133 (fun s68 wx=>∃ g:Bool,s68=.bool g∧wx=wc)
   case first =>
    cases p
    ·go_wp2
     go_meet
     exact ⟨_,rfl,rfl⟩
    ·cases q
     ·go_wp2
      go_meet
      exact ⟨_,rfl,rfl⟩
     ·go_wp2
      go_meet
      exact ⟨_,rfl,rfl⟩
   case rest =>
   obtain ⟨g3,rfl,rfl⟩:=hcut
   rename_i HKK
   refine HKK _ _ ?_
   go_cut [] from 19 to 133 (fun wx=>∃ d3:Array Nat,Hid (St blk off len a b d w x y d3 wx))
   case first =>
    cases g3
    ·go_wp2
     go_meet
     exact ⟨d7,S7⟩
    ·go_wp2_with (go_at_call 187;refine (CP.out x y len d7 _ S7.out.1 S7.out.2.2.2.1 (by omega) hy hsz S7.out.2.1).mono ?_)
     rintro e w3 ⟨r,d3,rfl,hq3,hr,hL3⟩
     cases r
     ·have S3:=hid (S7.out.turn hy hq3.out hL3.out)
      clear hq3 hr hL3
      go_wp2
      go_meet
      exact ⟨d3,S3⟩
     ·go_wp2
      refine bodyPost_ret (results_none rfl _ _ _) rfl ?_
      exact S7.out.done ⟨hq3.out,hr.out (by simp)⟩ hL3.out
   case rest =>
   obtain ⟨d3,S3⟩:=hcut
   clear S7
   go_upto_region 17 with fail
   go_cut [87] from 19 to 133 (fun s87 wx=>∃ g:Bool,s87=.bool g∧Hid (g=true→0<x∧ltN d3[x - 1]! d3[pz]! = false)∧Hid (St blk off len a b d w x y d3 wx))
   case first =>
    obtain ⟨G,hG,hcw,hfw⟩:=row_facts (m:=0) (dk:=d3) S3.out.2.2.2.1 rfl (show _=putRow encN (Sort.ahead _ 0) blk off d3 from (putRow_self _ _ _ _ _ S3.out.2.2.2.1).symm)
    have HG:=hid hG
    have hz:=S3.out.1
    rw [hz] at hcw hfw
    clear hG hz
    have jp:pz<len:=by omega
    by_cases hx0:0<x
    ·have j1:x - 1<len:=by omega
     obtain ⟨g,hg⟩:∃ g,ltN (G (x - 1)) (G pz)=g:=⟨_,rfl⟩
     have C:=hid (fun w=>hg ▸ CL.out (G (x - 1)) (G pz) w)
     have HN:=hid (show ltN d3[x - 1]! d3[pz]! = g by rw [← HG.out,← HG.out];exact hg)
     have HX:=hid hx0
     clear hg
     cases g
     all_goals
      go_wp2
      go_big_quiet (first | (go_at_call 188;refine Calls.quiet_of_same (C.out _)))
      have SQ:=hid (S3.out.drawn nq)
      go_wp2
      go_meet
      first
       | exact ⟨true,rfl,hid fun _=>⟨HX.out,HN.out⟩,SQ⟩
       | exact ⟨false,rfl,hid fun h=>(by cases h),SQ⟩
    ·have hd:decide ((0:Int)<(x:Int))=false:=by simp;omega
     go_wp2
     go_big_quiet (first | (go_at_call 188;refine Calls.quiet_of_same (CL.out _ _ _)))
     have SQ:=hid (S3.out.drawn nq)
     go_wp2
     go_meet
     exact ⟨false,rfl,hid fun h=>(by cases h),SQ⟩
   case rest =>
   obtain ⟨g,rfl,HN,SQ⟩:=hcut
   clear S3
   cases g
   rotate_left
   ·obtain ⟨hx0,hnl⟩:=HN.out rfl
    have HX:=hid hnl
    clear hnl HN
    go_upto_region 19 with (go_at_call 189;refine (CE.out x y pz len d3 _ SQ.out.1 SQ.out.2.2.2.1 hp1 hp2 hy hsz).mono ?_;rintro e w4 ⟨mid,d4,rfl,hx,hL4⟩)
    obtain ⟨g1,g2,g3⟩:=SQ.out.equal hx0 hp1 hp2 hy HX.out hx.out hL4.out
    have G3:=hid g3
    clear g3
    go_wp2
    go_roundw
    case rel=>exact ⟨mid,y,l1,_,_,d4,rfl,rfl,rfl,rfl,rfl,g2,hy,by omega,by have:=hn.out;unfold Hid;omega,G3.out⟩
    case measure=>simp [intOf] <;> omega
   clear HN
   go_upto_region 21 with (go_at_call 190;refine (CT.out x y pz len d3 _ SQ.out.1 SQ.out.2.2.2.1 hp1 hp2 hy hsz).mono ?_;rintro e w4 ⟨mid,ap,d4,rfl,hx,hL4⟩)
   obtain ⟨g1,g2,g3,g4,g5⟩:=SQ.out.split hp1 hp2 hy hx.out hL4.out
   have hw4:blk<w4.heap.size:=by have:=hL4.out.2.size;have:=SQ.out.size hblk;omega
   by_cases hlt:mid - x<y - mid
   ·have hlti:(mid:Int) - (x:Int)<(y:Int) - (mid:Int):=by omega
    go_wp2_with (go_at_call 180;refine (IH.out x mid l1 d4 w4 (by have:=hn.out;omega) g3.out.1 hL4.out.1 g1 (by omega) g3.out.2.1 hw4 (by omega)).mono ?_)
    rintro e w5 ⟨rfl,L,hq,hL5⟩
    go_wp2
    go_roundw
    case rel=>exact ⟨mid+1,y,l1,_,ap,L,by go_num,rfl,rfl,rfl,rfl,by omega,hy,by omega,by have:=hn.out;unfold Hid;omega,g4.out L w5 hq.out hL5.out⟩
    case measure=>simp [intOf] <;> omega
   ·have hlti:¬ (mid:Int) - (x:Int)<(y:Int) - (mid:Int):=by omega
    go_wp2_with (go_at_call 180;refine (IH.out (mid+1) y l1 d4 w4 (by have:=hn.out;omega) g3.out.1 hL4.out.1 (by omega) hy g3.out.2.2 hw4 (by omega)).mono ?_)
    rintro e w5 ⟨rfl,L,hq,hL5⟩
    go_wp2
    go_roundw
    case rel=>exact ⟨x,mid,l1,_,ap,L,rfl,rfl,rfl,rfl,rfl,g1,by omega,by omega,by have:=hn.out;unfold Hid;omega,g5.out L w5 hq.out hL5.out⟩
    case measure=>simp [intOf] <;> omega
end Srt
end Go.Proofs.YtjfmompgkkdliaaGreatDoor
