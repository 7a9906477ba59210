/- Part of the proof. -/
import Derived.OrdersHeld
import Derived.OrdersIn
import Derived.RangeFuncCalls
import Derived.Deep.RegionHeld3
import Derived.Shelf.RegionOpen
import Derived.RangeFuncNested
import Derived.Test.YtjfmompgkkdliaaGreatDoorH21
import Derived.Test.YtjfmompgkkdliaaGreatDoorH35
import Derived.Test.YtjfmompgkkdliaaGreatDoorH01
open Go.Lib (hid)
set_option maxRecDepth 100000
set_option maxHeartbeats 40000000
namespace Go.Proofs.YtjfmompgkkdliaaGreatDoor
namespace Mem
open Go.RowKit
section
variable {P:Program} {ops:Array Oper} {Q:Exit→Act→World→Prop} {md:Region.Mode} {l n:Nat}
theorem rows_round {row:String} {args:Array Value} {w:World} {R:Value→World→Prop} (h:Rows P row args w R):RowsIn (Fence.wide.inRound l) n P row args w R:=fun c cs _ =>
 let ⟨v,w',r,s⟩:=h c cs
 ⟨v,w',r,stepsIn_wide.2 s⟩
theorem oper_round {o:Oper} {a:Act} {w:World} {K:Act→World→Prop} (hnd:∀ c,o.op≠.defer c) (h:o.wp P a w K Q):o.wpIn (Fence.wide.inRound l) n P a w K Q:=by
 unfold Oper.wp at h
 unfold Oper.wpIn
 refine ⟨fun _ _=>trivial,?_⟩
 rw [Oper.semAt_eq _ _ _ hnd]
 generalize (execOp a.eval o).run P w=r at *
 cases r with
 | ok x w' =>
  cases x with
  | value v=>exact h
  | skip=>exact h
  | defer d=>exact h
  | enter f args=>exact ⟨fun e=>by simp [Fence.wide] at e,CallsIn.inRound l (callsIn_wide.2 h)⟩
  | row r args=>exact ⟨fun e=>by simp [Fence.wide] at e,rows_round h⟩
  | _=>exact h.elim
 | halt x w' =>
  cases x <;> exact h
theorem wpOp_round {i:Nat} {a:Act} {w:World} {K:Act→World→Prop} (hnd:∀ (j:Nat) (o:Oper),ops[j]?=some o→∀ c,o.op≠.defer c) (hQ:¬ LetsOut Q) (h:wpOp P ops Q i K a w):wpOpIn (Fence.wide.inRound l) n P ops Q i K a w:=by
 unfold wpOp at h
 unfold wpOpIn
 cases ho:ops[i]? with
 | none=>rw [ho] at h;exact h
 | some o =>
  rw [ho] at h
  simp only at h ⊢
  split at h
  ·rename_i hw
   rw [if_pos hw]
   rcases h with h | h
   ·exact oper_round (hnd i o ho) h
   ·exact absurd h.2 hQ
  ·rename_i hw
   rw [if_neg hw]
   exact ⟨fun _ _=>trivial,h⟩
theorem wpAny_round (hnd:∀ (j:Nat) (o:Oper),ops[j]?=some o→∀ c,o.op≠.defer c) (hQ:¬ LetsOut Q):∀ (fuel:Nat) (listed:Array Bool) (a:Act) (w:World),wpAny P md ops Q fuel listed a w→wpAnyIn (Fence.wide.inRound l) n P md ops Q fuel listed a w
 | 0,_,_,_,h=>h
 | fuel+1,_,_,_,h=>⟨h.1,fun i hi=>wpOp_round hnd hQ (wpOp_mono (fun a' w' h'=>wpAny_round hnd hQ fuel _ a' w' h') (h.2 i hi))⟩
def noDefer (l:List Oper):Bool:=l.all fun o=>match o.op with | .defer _=>false | _=>true
theorem noDefer_spec {l:List Oper} (h:noDefer l=true):∀ (j:Nat) (o:Oper),l.toArray[j]?=some o→∀ c,o.op≠.defer c:=fun j o ho c e=>by
 have h1:o∈l:=by
  simp only [List.getElem?_toArray] at ho
  exact List.mem_of_getElem? ho
 have h2:=List.all_eq_true.1 h o h1
 rw [e] at h2
 cases h2
end
theorem wpIn_round_held {P:Program} {Q:Exit→Act→World→Prop} {l n id:Nat} {a:Act} {w:World} {ops:List Oper} (S:World→Prop) (hm:P.follows .mixedOrders=true) (hnd:noDefer ops=true) (hQ:¬ LetsOut Q) (hS:S w.drew)
  (h:S w.drew→wpAnyH P .any ops.toArray Q S ops.toArray.size (Array.replicate ops.toArray.size false) a w.drew):(Code.region id ops.toArray true).wpIn (Fence.wide.inRound l) n P Q a w :=
 wpIn_region_any hm (wpAny_round (noDefer_spec hnd) hQ _ _ _ _ (wpAny_of_held _ _ _ _ (h hS)))
end Mem
namespace Seg
open Go.RowKit Go.Shelf Mem Segm
attribute [local go_sem] Oper.semAt_some
def runP (run:List Nat) (pre:List (Nth run.length)):List Piece:=pre.map fun j=>(2,cut255 run j.1)
theorem runP_snoc (run:List Nat) (pre:List (Nth run.length)) (x:Nth run.length):runP run (pre ++ [x])=runP run pre ++ [(2,cut255 run x.1)]:=by simp [runP]
theorem runP_all {run:List Nat} {ys:List (Nth run.length)} (h:ys.map (·.1)=List.range ((run.length+254) / 255)):runP run ys=cuts 2 run:=by
 unfold runP cuts cutN
 rw [← h,List.map_map]
 rfl
theorem nth_lt {run:List Nat} (x:Nth run.length):x.1<cutN run:=by
 have:=x.2
 unfold cutN
 omega
def Flushed (base fb B1 B2:Nat) (vn:Value) (P:List Piece) (W:World) (e:Ending) (W':World):Prop :=
 (∃ v,e=.returned v)∧∃ v,Boxed W' B1 27 (.slice none 0 0)∧Boxed W' B2 26 v∧OwnSegsF 108 base fb W' v P∧(v.ownBlock=vn.ownBlock∨∃ b,v.ownBlock=some b∧W.heap.size≤b)∧Spared B1 B2 vn.ownBlock W W'
theorem flush_any (base fb B1 B2:Nat) (vr vn:Value) (run:List Nat) (d:List Piece) (W:World) (hR:Boxed W B1 27 vr) (hN:Boxed W B2 26 vn) (h12:B1≠B2) (hrun:U32s W vr run)
  (hd:OwnSegsF 108 base fb W vn d) (hsep:∀ b off m c,vr=.slice (some ⟨b,off,none⟩) m c→0<m→vn.ownBlock≠some b) (hbase:base≤W.heap.size) (hfb:fb≤W.heap.size) (hlr:run.length≤100000) (hld:d.length≤1000000) :
  Calls Tryz.prog 174 #[.pointer (some ⟨B1,0,none⟩),.pointer (some ⟨B2,0,none⟩)] W (Flushed base fb B1 B2 vn (d ++ cuts 2 run) W):=by
 obtain ⟨i1,E1⟩:=elemSeg
 obtain ⟨A,c,rfl,hlc,hc,-,hcell⟩:=hrun.open_
 have hA:0<run.length→∃ b off,A=some ⟨b,off,none⟩:=fun h=>let ⟨b,off,_,e,_⟩:=hcell 0 h;⟨b,off,e⟩
 clear hcell
 have c1:=hR.cell
 have HR:=hid hrun
 obtain ⟨An,cn,rfl⟩:=hd.form
 refine (callsIn_wide (n:=5)).1 ?_
 refine callsIn_of_wp_marks Tryz.func174 rfl trivial ?_ rfl
 simp only [Tryz.ntmps174,List.size_toArray,List.length_cons,List.length_nil,Nat.reduceAdd,Nat.reduceSub,Array.replicate_succ,Array.replicate_zero,List.push_toArray,List.append_toArray,List.nil_append,List.cons_append]
 gi_wp2_with (refine ⟨trivial,?_⟩;gi_at_call 175;refine (callsIn_wide.2 (chunk_any A run.length c _)).mono ?_;rintro e w' ⟨rfl,rfl⟩)
 have hsz:((W.alloc (.cells #[.slice A run.length c] 27)).alloc (.cells #[.int .i64 255] 3)).heap.size=W.heap.size+1+1:=by simp
 have hB0:Below W.heap.size W ((W.alloc (.cells #[.slice A run.length c] 27)).alloc (.cells #[.int .i64 255] 3)):=((Below.refl _ W).alloc (Nat.le_refl _) _).alloc (by simp) _
 have bS:=Boxed.new W 27 (.slice A run.length c)
 have bM:=Boxed.new (W.alloc (.cells #[.slice A run.length c] 27)) 3 (.int .i64 255)
 simp only [World.size_alloc] at bM
 have R0:Rounds base fb B1 B2 W.heap.size (Value.slice An d.length cn).ownBlock W (.slice A run.length c) (d ++ runP run []) (.slice An d.length cn) ((W.alloc (.cells #[.slice A run.length c] 27)).alloc (.cells #[.int .i64 255] 3)) :=
  ⟨(hN.alloc _).alloc _,by simpa [runP] using hd.keep hB0,.inl rfl,(hR.alloc _).alloc _,bS.alloc _,bM,Spared.refl.below (Nat.le_refl _) hB0⟩
 have hs2:W.heap.size≠B2:=fun e=>by have:=hN.lt;omega
 have hn2:W.heap.size+1≠B2:=fun e=>by have:=hN.lt;omega
 have hun:∀ X,Spared B1 B2 (Value.slice An d.length cn).ownBlock W X→U32s X (.slice A run.length c) run:=fun X h=>h.u32 hrun fun b off m c' e hm=>by
  rw [e] at hrun
  exact ⟨u32_box hR hrun hm,u32_box hN hrun hm,fun e2=>hsep b off m c' e hm e2.symm⟩
 refine wpIn_rangeFunc_ownG rfl (by omega) (gf:=179) (lb:=#[.pointer (some ⟨W.heap.size,0,none⟩),.pointer (some ⟨W.heap.size+1,0,none⟩)]) rfl trivial (enters_of Tryz.func179 (by kernel_rfl) rfl)
  (chunk1_stops _ A run.length c (by omega) hlc hc hA W.heap.size _ (by omega) R0.src R0.num) (fun h k=>KeepTwo.trans h k) ?keepb (Below.refl _ _) (fun _=>rfl)
  (fun pre X=>∃ v,Rounds base fb B1 B2 W.heap.size (Value.slice An d.length cn).ownBlock W (.slice A run.length c) (d ++ runP run pre) v X)
  (fun _ _ _=>False)
  (rounds_own (by simp;omega)) (fun _ _ _ _ _ h _ _=>h) ⟨_,R0⟩
  (fun x=>{ tmps:=#[.pointer (some ⟨B1,0,none⟩),.pointer (some ⟨B2,0,none⟩),pieceV A run.length x.1,.slice A run.length c,.func (.func 179) #[] #[.pointer (some ⟨W.heap.size,0,none⟩),.pointer (some ⟨W.heap.size+1,0,none⟩)],pieceV A run.length x.1,undef,undef,undef,undef,undef,undef],defers:=[] }) ?assign ?body ?done ?stop
 case keepb =>
  intro X l o o' hl _ _ _
  simp only [World.size_alloc] at hl
  exact ⟨World.putObj_heap_other (by omega),World.putObj_heap_other (by omega)⟩
 case assign =>
  intro l x X K hK
  gi_wp2
  exact hK
 case body =>
  rintro l pre x X ⟨v,hX⟩ hlt
  obtain ⟨b,off,rfl⟩:=hA (by have:=x.2;omega)
  have hu:=hun X hX.rest
  have hp:=hu.piece (nth_lt x)
  obtain ⟨P,hP⟩:∃ P,P=d ++ runP run pre:=⟨_,rfl⟩
  have hlp:pre.length≤1000:=by omega
  have hPl:P.length≤1001000:=by rw [hP,List.length_append,runP,List.length_map];omega
  have HN:=hid (show d ++ runP run (pre ++ [x])=P ++ [(2,cut255 run x.1)] by rw [hP,runP_snoc,List.append_assoc])
  rw [← hP] at hX
  clear hP
  obtain ⟨q,hown,hq,hap,hfq⟩:=hX.own
  have hrow:=hX.row
  obtain ⟨L,hL⟩:∃ L,L=P.length:=⟨_,rfl⟩
  rw [← hL] at hown hPl
  obtain ⟨Av,cv,rfl⟩:=own_form hown
  have cN:=hrow.cell
  have fN:=hrow.frozen
  obtain ⟨j,hj⟩:=x
  simp only at hp HN
  have hcl:(cut255 run j).length=min 255 (run.length - 255*j):=(cut_len (nth_lt ⟨j,hj⟩)).1
  have HC:=hid (Srt.clone_any _ (cut255 run j) X.drew (hp.keep ((Below.refl _ _).drew)) (by have:=cut_le run j;omega))
  obtain ⟨l5,hl5⟩:∃ l5,l5=cut255 run j:=⟨_,rfl⟩
  rw [← hl5] at HC HN hp hcl
  obtain ⟨m,hm⟩:∃ m,m=l5.length:=⟨_,rfl⟩
  have HL32:=hid hp.2
  have HM:=hid hm
  have HLL:=hid hL
  have HX:=hid hX
  have HB:=hid hX.rest.size
  have HQ:=hid hq
  have HA:=hid hap
  have HFQ:=hid hfq
  have HO:=hid hown
  have HRW:=hid hrow
  have hmx:Tryz.prog.follows .mixedOrders=true:=by kernel_rfl
  have hEnd:∀ (A1:Option Addr) (c1:Nat) (A4:Option Addr) (c4:Nat) (X1 X2:World),Below X.heap.size X X1→X1.ownsRow X.drew.heap.size 22 1 (.slice A1 m c1) m (l5.map fun n:Nat=>Value.int .u32 n) →
    X2.ownsRow base 108 2 (.slice A4 (L+1) c4) (L+1) (segCells P q ++ [.int .i64 2,.slice A1 m c1])→(X1.alloc (.cells #[.int .i64 2,.slice A1 m c1] 108)).grownBy X2 (Value.slice Av L cv).ownBlock →
    ((Value.slice A4 (L+1) c4).ownBlock=(Value.slice Av L cv).ownBlock∨(Value.slice A4 (L+1) c4).ownBlock=some (X1.alloc (.cells #[.int .i64 2,.slice A1 m c1] 108)).heap.size) →
    KeepsFrom ((W.alloc (.cells #[.slice (some ⟨b,off,none⟩) run.length c] 27)).alloc (.cells #[.int .i64 255] 3)).heap.size X (X2.setCell ⟨B2,0,none⟩ (.slice A4 (L+1) c4))∧KeepTwo W.heap.size X (X2.setCell ⟨B2,0,none⟩ (.slice A4 (L+1) c4)) ∧
     ∃ v,Rounds base fb B1 B2 W.heap.size (Value.slice An d.length cn).ownBlock W (.slice (some ⟨b,off,none⟩) run.length c) (d ++ runP run (pre ++ [⟨j,hj⟩])) v (X2.setCell ⟨B2,0,none⟩ (.slice A4 (L+1) c4)):=fun A1 c1 A4 c4 X1 X2 hb1r ho1 hown4 hg4 hat4=>by
   have hu1:U32s X1 (.slice A1 m c1) l5:=by have h9:=HM.out;subst h9;exact U32s.of_own ho1 HL32.out
   have hnew:∀ b' off' m' c',Value.slice A1 m c1=.slice (some ⟨b',off',none⟩) m' c'→0<m'→X.heap.size≤b':=fun b' off' m' c' e hm'=>by
    injection e with e1 e3 e4
    rw [e1,e3] at ho1
    obtain ⟨g,cap,e5,hg1,hg2⟩:=ho1.form (by omega)
    injection e5 with e5
    injection e5 with e5
    injection e5 with e5
    have h6:X.drew.heap.size=X.heap.size:=rfl
    omega
   obtain ⟨k1,k2,k3⟩:=round_step HX.out HLL.out h12 hs2 hn2 HO.out HQ.out HA.out HFQ.out hb1r hu1 (fun b' off' m' c' e hm' e2=>by
    have h5:=(HO.out.lt b' e2).2
    have h6:=hnew b' off' m' c' e hm'
    omega) (FreshQ.one fun b' off' m' c' e hm'=>Nat.le_trans hfb (Nat.le_trans HB.out (hnew b' off' m' c' e hm'))) HB.out hown4 hg4 hat4
   exact ⟨k1.from _,k2,.slice A4 (L+1) c4,by rw [HN.out];exact k3⟩
  simp only [pieceV,Option.map_some]
  rw [← hcl,← hm]
  rw [← hcl,← hm] at HC
  clear hl5 hm hcl hL hq hap hfq hown hX hp hu hrow
  gi_wp2
  refine wpIn_round_held (fun _=>True) hmx (by kernel_rfl) (fun ⟨_,_,h⟩=>h) trivial (fun _=>?_)
  refine wpAnyH_take (i:=1) (oi:=_) (v:=?_) rfl (by kernel_rfl) (by kernel_rfl) (by kernel_rfl) (fun _ _ _ h=>h) (Or.inl ⟨by rfl,?_⟩) trivial ?_
  rotate_left
  ·(intro w hSw;go_simp)
   try with_reducible rfl
  try simp only [Act.put,List.setIfInBounds_toArray]
  refine wpAnyH_ready (rs:=[0,2]) (by kernel_rfl) (by simp) ?_
  refine AllReadyH.cons rfl (fun K hK=>?_) (AllReadyH.cons rfl (fun K hK=>?_) AllReadyH.nil)
  ·go_simp
   refine hK.out _ _ trivial (fun _=>?_)
   clear hK K
   try simp only [Act.put,List.setIfInBounds_toArray,List.set_cons_zero,List.set_cons_succ]
   refine wpAnyH_ready (rs:=[2]) (by kernel_rfl) (by simp) ?_
   refine AllReadyH.cons rfl (fun K hK=>?_) AllReadyH.nil
   go_simp
   go_at_call 37
   refine (HC.out).mono ?_
   rintro e X1 ⟨v1,rfl,ho1,hb1⟩
   rw [← HM.out] at ho1
   obtain ⟨A1,c1,rfl⟩:=own_form ho1
   have hb1r:Below X.heap.size X X1:=Go.RowKit.Below.trans ((Below.refl _ _).drew) hb1
   have r1:Boxed X1 B2 _ _:=(hb1r.block B2 HRW.out.lt).trans HRW.out
   have HO1:=hid (own_keep HO.out hb1r)
   have cN1:=r1.cell
   have cN2:=(r1.alloc (.cells #[.int .i64 2,.slice A1 m c1] 108)).cell
   refine hK.out _ _ trivial (fun _=>?_)
   clear hK K
   try simp only [Act.put,List.setIfInBounds_toArray,List.set_cons_zero,List.set_cons_succ]
   refine wpAnyH_take (i:=3) (oi:=_) (v:=?_) rfl (by kernel_rfl) (by kernel_rfl) (by kernel_rfl) (fun _ _ _ h=>h) (Or.inl ⟨by rfl,?_⟩) trivial ?_
   rotate_left
   ·(intro w hSw;go_simp)
    try with_reducible rfl
   try simp only [Act.put,List.setIfInBounds_toArray]
   refine wpAnyH_ready (rs:=[4]) (by kernel_rfl) (by simp) ?_
   refine AllReadyH.cons rfl (fun K hK=>?_) AllReadyH.nil
   go_simp
   refine hK.out _ _ trivial (fun _=>?_)
   clear hK K
   try simp only [Act.put,List.setIfInBounds_toArray,List.set_cons_zero,List.set_cons_succ]
   refine wpAnyH_ready (rs:=[5]) (by kernel_rfl) (by simp) ?_
   refine AllReadyH.cons rfl (fun K hK=>?_) AllReadyH.nil
   refine step_append_row (by rfl) (.tmp 6) (.tmp 10) (by rfl) E1 base _ L _ (by rfl) (HO1.out.alloc _) _ 1 [.int .i64 2,.slice A1 m c1] (by rfl) ?_ (ones_two _ _ _ _) ?_ ?_ ?_ (L+1) rfl ?_
   ·exact row_seg_at _ _ _ _ rfl
   ·unfold maxLen;omega
   ·omega
   ·have:=HB.out;have:=hb1r.size;simp;omega
   intro A4 c4 X2 hown4 hg4 hat4 hb4
   have r3:Boxed X2 B2 _ _:=(r1.alloc _).kept hg4 (r1.not_row (by decide) HO1.out)
   have cN3:=r3.cell
   have fN3:=r3.frozen
   refine hK.out _ _ trivial (fun _=>?_)
   clear hK K
   try simp only [Act.put,List.setIfInBounds_toArray]
   refine wpAnyH_ready (rs:=[6]) (by kernel_rfl) (by simp) ?_
   refine AllReadyH.cons rfl (fun K hK=>?_) AllReadyH.nil
   go_simp
   refine hK.out _ _ trivial (fun _=>?_)
   clear hK K
   try simp only [Act.put,List.setIfInBounds_toArray,List.set_cons_zero,List.set_cons_succ]
   refine wpAnyH_done (by kernel_rfl) ?_ _
   exact hEnd A1 c1 A4 c4 X1 X2 hb1r ho1 hown4 hg4 hat4
  ·go_simp
   go_at_call 37
   refine (HC.out).mono ?_
   rintro e X1 ⟨v1,rfl,ho1,hb1⟩
   rw [← HM.out] at ho1
   obtain ⟨A1,c1,rfl⟩:=own_form ho1
   have hb1r:Below X.heap.size X X1:=Go.RowKit.Below.trans ((Below.refl _ _).drew) hb1
   have r1:Boxed X1 B2 _ _:=(hb1r.block B2 HRW.out.lt).trans HRW.out
   have HO1:=hid (own_keep HO.out hb1r)
   have cN1:=r1.cell
   have cN2:=(r1.alloc (.cells #[.int .i64 2,.slice A1 m c1] 108)).cell
   refine hK.out _ _ trivial (fun _=>?_)
   clear hK K
   try simp only [Act.put,List.setIfInBounds_toArray,List.set_cons_zero,List.set_cons_succ]
   refine wpAnyH_take (i:=3) (oi:=_) (v:=?_) rfl (by kernel_rfl) (by kernel_rfl) (by kernel_rfl) (fun _ _ _ h=>h) (Or.inl ⟨by rfl,?_⟩) trivial ?_
   rotate_left
   ·(intro w hSw;go_simp)
    try with_reducible rfl
   try simp only [Act.put,List.setIfInBounds_toArray]
   refine wpAnyH_ready (rs:=[0,4]) (by kernel_rfl) (by simp) ?_
   refine AllReadyH.cons rfl (fun K hK=>?_) (AllReadyH.cons rfl (fun K hK=>?_) AllReadyH.nil)
   focus
    go_simp
    refine hK.out _ _ trivial (fun _=>?_)
    clear hK K
    try simp only [Act.put,List.setIfInBounds_toArray,List.set_cons_zero,List.set_cons_succ]
    refine wpAnyH_ready (rs:=[4]) (by kernel_rfl) (by simp) ?_
   rotate_left
   focus
    go_simp
    refine hK.out _ _ trivial (fun _=>?_)
    clear hK K
    try simp only [Act.put,List.setIfInBounds_toArray,List.set_cons_zero,List.set_cons_succ]
    refine wpAnyH_ready (rs:=[0]) (by kernel_rfl) (by simp) ?_
   all_goals
    refine AllReadyH.cons rfl (fun K hK=>?_) AllReadyH.nil
    go_simp
    refine hK.out _ _ trivial (fun _=>?_)
    clear hK K
    try simp only [Act.put,List.setIfInBounds_toArray,List.set_cons_zero,List.set_cons_succ]
    refine wpAnyH_ready (rs:=[5]) (by kernel_rfl) (by simp) ?_
    refine AllReadyH.cons rfl (fun K hK=>?_) AllReadyH.nil
    refine step_append_row (by rfl) (.tmp 6) (.tmp 10) (by rfl) E1 base _ L _ (by rfl) (HO1.out.alloc _) _ 1 [.int .i64 2,.slice A1 m c1] (by rfl) ?_ (ones_two _ _ _ _) ?_ ?_ ?_ (L+1) rfl ?_
    ·exact row_seg_at _ _ _ _ rfl
    ·unfold maxLen;omega
    ·omega
    ·have:=HB.out;have:=hb1r.size;simp;omega
    intro A4 c4 X2 hown4 hg4 hat4 hb4
    have r3:Boxed X2 B2 _ _:=(r1.alloc _).kept hg4 (r1.not_row (by decide) HO1.out)
    have cN3:=r3.cell
    have fN3:=r3.frozen
    refine hK.out _ _ trivial (fun _=>?_)
    clear hK K
    try simp only [Act.put,List.setIfInBounds_toArray]
    refine wpAnyH_ready (rs:=[6]) (by kernel_rfl) (by simp) ?_
    refine AllReadyH.cons rfl (fun K hK=>?_) AllReadyH.nil
    go_simp
    refine hK.out _ _ trivial (fun _=>?_)
    clear hK K
    try simp only [Act.put,List.setIfInBounds_toArray,List.set_cons_zero,List.set_cons_succ]
    refine wpAnyH_done (by kernel_rfl) ?_ _
    exact hEnd A1 c1 A4 c4 X1 X2 hb1r ho1 hown4 hg4 hat4
 case done =>
  rintro D ys X hD hys ⟨v,hX⟩ hK
  have HP:=hid (runP_all hys)
  have c9:=hX.one.cell
  have f9:=hX.one.frozen
  have HX:=hid hX
  have HD:=hid hD
  clear hys hX hD
  gi_wp2
  have hX:=HX.out
  have hD:=HD.out
  have hsD:W.heap.size≤D:=by simp at hD;omega
  have hK':=(KeepsOthers.setCell X ⟨B1,0,none⟩ (.slice none 0 0)).same D _ hK rfl
  have hgp:=grownBy_putObj' (X.setCell ⟨B1,0,none⟩ (.slice none 0 0)) D (.deferred none)
  have hrp:∀ r,some D=some r→∃ o:Obj,(X.setCell ⟨B1,0,none⟩ (.slice none 0 0)).heap[r]?=some o∧o.isCells=false:=fun r e=>by cases e;exact ⟨_,hK',rfl⟩
  have bx:∀ {b t u},Boxed (X.setCell ⟨B1,0,none⟩ (.slice none 0 0)) b t u→Boxed ((X.setCell ⟨B1,0,none⟩ (.slice none 0 0)).putObj D (.deferred none)) b t u:=fun {b t u} k=>boxed_own (β:=Unit) b t (fun _=>u) () _ _ _ k hgp hrp
  refine ⟨by simp,.inl ⟨_,_,rfl,run_takeDeferred hK',?_⟩⟩
  refine ⟨_,results_none rfl _ _ _,⟨_,rfl⟩,v,bx (hX.one.set _),bx (hX.row.other h12.symm _),?_,hX.at_,?_⟩
  ·obtain ⟨q,e1,e2,e3,e4⟩:=hX.own
   rw [HP.out] at e1 e2
   exact ⟨q,own_own (e1.kept (grownBy_setCell' X B1 _) (.inr (hX.one.not_row (by decide) e1).symm)) hgp hrp,(e2.set hX.one _).own hgp hrp,e3,e4⟩
  ·exact (hX.rest.grown (grownBy_setCell' X B1 _) fun r e _=>by cases e;exact .inl rfl).grown hgp fun r e hlt=>by cases e;omega
 case stop =>
  rintro D c' pre X _ _ h _
  exact h.elim
end Seg
namespace Seg
open Go.RowKit Mem Rise Segm
structure NormAt (w:World) (m:List Piece) (vr vn:Value) (run:List Nat) (d:List Piece) (q:List Value) (X:World):Prop where
 b1:Boxed X (w.heap.size+1) 27 vr
 b2:Boxed X w.heap.size 26 vn
 orun:X.ownsRow w.heap.size 22 1 vr run.length (run.map fun n:Nat=>Value.int .u32 n)
 oseg:X.ownsRow w.heap.size 108 2 vn d.length (segCells d q)
 nums:Nums32 X d q
 ap1:Apart vn q
 ap2:Apart vr q
 fresh:FreshQ w.heap.size q
 lt:∀ n∈run,n<4294967296
 is:putsS d run=normS m
 shut:Closed d
 len:run.length+d.length≤bulk m
 rest:Below w.heap.size w X
section
variable {w:World} {m:List Piece} {vr vn:Value} {run:List Nat} {d:List Piece} {q:List Value} {X Y:World}
theorem NormAt.keep (h:NormAt w m vr vn run d q X) (hb:Below X.heap.size X Y):NormAt w m vr vn run d q Y :=
 ⟨below_box hb h.b1.lt h.b1,below_box hb h.b2.lt h.b2,own_keep h.orun hb,own_keep h.oseg hb,h.nums.keep hb,h.ap1,h.ap2,h.fresh,h.lt,h.is,h.shut,h.len,h.rest.trans (hb.mono h.rest.size)⟩
theorem NormAt.drop (h:NormAt w m vr vn run d q X) {s:Piece} (h2:¬ s.1=2) (h1:¬ (s.1=1∧s.2≠[])):NormAt w (m ++ [s]) vr vn run d q X :=
 { h with is:=Segm.norm_drop h.is h2 h1,len:=by have:=h.len;rw [bulk_append];omega }
theorem own_ne {base:Nat} {e e2:TypeId} {size size2:Nat} {v v2:Value} {n n2:Nat} {xs xs2:List Value} (h:X.ownsRow base e size v n xs) (h2:X.ownsRow base e2 size2 v2 n2 xs2) (hne:e≠e2):v2.ownBlock=none∨v2.ownBlock≠v.ownBlock:=by
 rcases h2.2 with ⟨rfl,_⟩ | ⟨g,cap,cur,rfl,_,hg,_⟩
 ·exact .inl rfl
 ·exact .inr fun e=>own_apart h h2 hne g e.symm rfl
theorem NormAt.seq {s:Piece} {Y2:World} {N c':Nat} {A':Option Addr} (h:NormAt w m vr vn run d q Y) (hs:s.1=2) (hl:∀ n∈s.2,n<4294967296) (hN:N=run.length+s.2.length)
  (hown:Y2.ownsRow w.heap.size 22 1 (.slice A' N c') N ((run.map fun n:Nat=>Value.int .u32 n) ++ s.2.map fun n:Nat=>Value.int .u32 n)) (hg:Y.grownBy Y2 vr.ownBlock)
  (hat:(Value.slice A' N c').ownBlock=vr.ownBlock∨(Value.slice A' N c').ownBlock=some Y.heap.size) (hb:Below w.heap.size Y Y2) :
  NormAt w (m ++ [s]) (.slice A' N c') vn (run ++ s.2) d q (Y2.setCell ⟨w.heap.size+1,0,none⟩ (.slice A' N c')):=by
 subst hN
 have r1:=h.b1.kept hg (h.b1.not_row (by decide) h.orun)
 have r2:=h.b2.kept hg (h.b2.not_row (by decide) h.orun)
 have o2:=h.oseg.kept hg (own_ne h.orun h.oseg (by decide))
 have n2:=h.nums.grown hg h.ap2
 obtain ⟨Ar,cr,rfl⟩:=own_form h.orun
 refine ⟨r1.set _,r2.other (by omega) _,?_,o2.kept (grownBy_setCell' Y2 _ _) (.inr (r1.not_row (by decide) o2).symm),n2.set r1 _,h.ap1,h.ap2.grown h.nums hat (Nat.le_refl _),h.fresh,?_,Segm.norm_seq h.is hs,h.shut,?_,?_⟩
 ·have:=hown.kept (grownBy_setCell' Y2 (w.heap.size+1) (.slice A' (run.length+s.2.length) c')) (.inr (r1.not_row (by decide) hown).symm)
  rw [List.map_append,List.length_append]
  exact this
 ·intro n hn
  rcases List.mem_append.1 hn with hn | hn
  ·exact h.lt n hn
  ·exact hl n hn
 ·have:=h.len
  rw [bulk_append,List.length_append]
  simp [bulk] at this ⊢
  omega
 ·exact (h.rest.trans hb).setCell (p:=⟨w.heap.size+1,0,none⟩) (by simp) _
theorem NormAt.set_ {s:Piece} {Z Z1 Z2:World} {v:Value} {q':List Value} {L c4 mm c1:Nat} {A1 A4:Option Addr} {base:Nat} (h:NormAt w m vr vn run d q Y) (hs:s.1=1) (h0:s.2≠[]) (hL:L=(d ++ cuts 2 run).length)
  (g1:Boxed Z (w.heap.size+1) 27 (.slice none 0 0)) (g2:Boxed Z w.heap.size 26 v) (go:Z.ownsRow w.heap.size 108 2 v L (segCells (d ++ cuts 2 run) q')) (gn:Nums32 Z (d ++ cuts 2 run) q') (ga:Apart v q') (gf:FreshQ w.heap.size q') (gb:Below w.heap.size w Z)
  (hb1:Below Z.heap.size Z Z1) (hu:U32s Z1 (.slice A1 mm c1) (setOf s.2)) (hnew:∀ b off m' c,Value.slice A1 mm c1=.slice (some ⟨b,off,none⟩) m' c→Z.heap.size≤b)
  (hown4:Z2.ownsRow w.heap.size 108 2 (.slice A4 (L+1) c4) (L+1) (segCells (d ++ cuts 2 run) q' ++ [.int .i64 1,.slice A1 mm c1]))
  (hg:(Z1.alloc (.cells #[.int .i64 1,.slice A1 mm c1] 108)).grownBy Z2 v.ownBlock)
  (hat:(Value.slice A4 (L+1) c4).ownBlock=v.ownBlock∨(Value.slice A4 (L+1) c4).ownBlock=some (Z1.alloc (.cells #[.int .i64 1,.slice A1 mm c1] 108)).heap.size)
  (hb4:Below base (Z1.alloc (.cells #[.int .i64 1,.slice A1 mm c1] 108)) Z2) (hbase:base=w.heap.size) :
  ∃ q2,NormAt w (m ++ [s]) (.slice none 0 0) (.slice A4 (L+1) c4) [] (d ++ cuts 2 run ++ [(1,setOf s.2)]) q2 (Z2.setCell ⟨w.heap.size,0,none⟩ (.slice A4 (L+1) c4)):=by
 subst hL hbase
 have hb2:Below Z.heap.size Z (Z1.alloc (.cells #[.int .i64 1,.slice A1 mm c1] 108)):=hb1.alloc hb1.size _
 have r1:=(below_box hb2 g1.lt g1).kept hg (g1.not_row (by decide) go)
 have r2:=(below_box hb2 g2.lt g2).kept hg (g2.not_row (by decide) go)
 obtain ⟨Av,cv,hv⟩:=own_form go
 obtain ⟨e1,e2,e3⟩:=segs_grownQ (p2:=[(1,setOf s.2)]) (q2:=[.slice A1 mm c1]) ((Below.refl _ Z1).alloc (Nat.le_refl _) _) (gn.keep hb1) ga (Nums32.one hu) (Apart.one fun b off m' c e _ e2=>by
  have h5:=(go.lt b e2).2
  have:=hnew b off m' c e
  omega) hg hat (by simp) (by simp) hown4
 have e1':Z2.ownsRow w.heap.size 108 2 (.slice A4 ((d ++ cuts 2 run).length+1) c4) (d ++ cuts 2 run ++ [(1,setOf s.2)]).length (segCells (d ++ cuts 2 run ++ [(1,setOf s.2)]) (q' ++ [.slice A1 mm c1])):=e1
 rw [hv] at r2
 refine ⟨q' ++ [.slice A1 mm c1],r1.other (by omega) _,r2.set _,World.ownsRow_nil _ _ _ _,e1'.kept (grownBy_setCell' Z2 w.heap.size _) (.inr (r2.not_row (by decide) e1').symm),e2.set r2 _,e3,Apart.none _,gf.append (FreshQ.one fun b off m' c e _=>Nat.le_trans gb.size (hnew b off m' c e)),by simp,Segm.norm_set h.shut h.is hs h0,closed_set _ _,?_,?_⟩
 ·have h6:=h.len
  have h7:(cuts 2 run).length≤run.length:=by unfold cuts cutN;rw [List.length_map,List.length_range];omega
  rw [bulk_append]
  simp [bulk] at h6 ⊢
  omega
 ·have h8:Below w.heap.size w (Z1.alloc (.cells #[.int .i64 1,.slice A1 mm c1] 108)):=gb.trans (hb2.mono gb.size)
  exact (h8.trans hb4).setCell (p:=⟨w.heap.size,0,none⟩) (Nat.le_refl _) _
end
theorem norm_start (p:List Piece) (w:World):NormAt w (p.take 0) (.slice none 0 0) (.slice none 0 0) [] [] [] ((w.alloc (.cells #[.slice none 0 0] 26)).alloc (.cells #[.slice none 0 0] 27)):=by
 have b1:=Boxed.new (w.alloc (.cells #[.slice none 0 0] 26)) 27 (.slice none 0 0)
 simp only [World.size_alloc] at b1
 exact ⟨b1,(Boxed.new _ _ _).alloc _,World.ownsRow_nil _ _ _ _,World.ownsRow_nil _ _ _ _,Nums32.nil _,Apart.none _,Apart.none _,FreshQ.nil _,by simp,by rw [List.take_zero];rfl,closed_nil,by simp,((Below.refl _ w).alloc (Nat.le_refl _) _).alloc (by simp) _⟩
theorem pnorm_any (v:Value) (p:List Piece) (w:World) (hv:Segs w v p) (hbk:bulk p≤40000) (hfit:FitS 4999 p) :
  Calls Tryz.prog 162 #[v] w (GivesSegsF 108 (normS p) w):=by
 obtain ⟨i1,E1⟩:=elemSeg
 obtain ⟨i0,E0⟩:=Nums.elem32
 have HV:=hid hv
 have HS:=hid (norm_start p w)
 obtain ⟨A,c,rfl,hlc,hc⟩:=hv.form
 obtain ⟨T,hT⟩:∃ T,T=normS p:=⟨_,rfl⟩
 rw [← hT]
 have HT:=hid hT
 have HBK:=hid hbk
 have HFIT:=hid hfit
 clear hv hT hbk hfit
 have hmf:∀ (fn:Fn) (first cap:Array Value) (w:World),(Instr.makeFunc fn first cap).run Tryz.prog w=.ok (.func fn first cap) w:=fun _ _ _ _=>rfl
 go_enter Tryz.func162,Tryz.ntmps162
 go_wp2
 go_loopw [11] (fun v11 wr=>∃ (i:Nat),i≤p.length∧v11=.int .i64 i∧Hid (∃ vr vn run d q,NormAt w (p.take i) vr vn run d q wr)) (fun v11 _=>p.length - (intOf v11).toNat)
 case atStart=>exact ⟨0,Nat.zero_le _,rfl,hid ⟨_,_,_,_,_,HS.out⟩⟩
 case round =>
  obtain ⟨i,hi,rfl,hM⟩:=hrel
  obtain ⟨vr,vn,run,d,q,hN⟩:=hM.out
  by_cases hlt:i<p.length
  ·obtain ⟨s,hs⟩:∃ s,p[i]?=some s:=⟨_,List.getElem?_eq_getElem hlt⟩
   obtain ⟨b,off,x,rfl,hbw,k1,k2,hx⟩:=(HV.out).at_ hs
   have j1:=(hN.rest.cell (p:=⟨b,off+i*2,none⟩) hbw).trans k1
   have j2:=(hN.rest.cell (p:=⟨b,off+i*2+1,none⟩) hbw).trans k2
   have z0:(0:Int)≤(i:Int):=by omega
   have z1:(i:Int)<(p.length:Int):=by omega
   obtain ⟨Ax,cx,rfl,hlx,hcx,-,-⟩:=hx.open_
   have HX:=hid ((hx.keep hN.rest).keep ((Below.refl _ wr).alloc (Nat.le_refl _) (.cells #[.int .i64 s.1,.slice Ax s.2.length cx] 108)))
   have HTK:=hid (take_one hs)
   have HFT:=hid (HFIT.out s (List.mem_of_getElem? hs))
   have HWR:=hid (show w.heap.size+1<wr.heap.size∧∀ b,vn.ownBlock=some b→b<wr.heap.size from ⟨hN.b1.lt,fun b e=>(hN.oseg.lt b e).2⟩)
   have hY:Below wr.heap.size wr (wr.alloc (.cells #[.int .i64 s.1,.slice Ax s.2.length cx] 108)):=(Below.refl _ wr).alloc (Nat.le_refl _) _
   have HY:=hid (hN.keep hY)
   have k1:=HY.out.b1.cell
   have k2:=HY.out.b2.cell
   have f1:=HY.out.b1.frozen
   have f2:=HY.out.b2.frozen
   have HW:=hid hN.rest.size
   obtain ⟨ml,hml⟩:∃ ml,ml=s.2.length:=⟨_,rfl⟩
   obtain ⟨ks,hks⟩:∃ ks,ks=s.1:=⟨_,rfl⟩
   rw [← hks,← hml] at HX HY k1 k2 f1 f2
   rw [← hks] at j1
   rw [← hml] at j2
   have hrow:=HX.out.1
   have hbd:run.length+d.length+ml≤40000:=by
    have h3:=bulk_take hs
    have h4:=bulk_take_le p (i+1)
    have h5:=HBK.out
    have h6:=hN.len
    omega
   rw [← hml] at hrow hx
   have HX0:=hid hx
   have HROW:=hid hrow
   clear hN hx hY hs hrow
   have HML:=hid hml
   have HKS:=hid hks
   by_cases h2:s.1=2
   ·obtain rfl:ks=2:=hks.trans h2
    clear hks hml h2
    go_wp2_with (at_builtin;refine wpList_append_row rfl (.tmp 19) (.tmp 21) rfl E0 w.heap.size vr run.length _ rfl HY.out.orun _ ml _ rfl HROW.out (ones_u32 _) ?_ ?_ ?_ (run.length+ml) rfl ?_;(· unfold maxLen;omega);(· omega);(· have:=HW.out;simp;omega);intro A' c' Y2 hown hg hat hb;have r1:=HY.out.b1.kept hg (HY.out.b1.not_row (by decide) HY.out.orun);have g1:=r1.cell;have g2:=r1.frozen)
    go_roundw
    case rel=>exact ⟨i+1,by omega,by go_num,hid ⟨_,_,_,_,_,by rw [HTK.out];exact HY.out.seq HKS.out.symm HX.out.2 (by rw [HML.out]) hown hg hat hb⟩⟩
    case measure=>simp [intOf];omega
   ·have hk2:¬ ks=2:=fun e=>h2 (hks.symm.trans e)
    by_cases h1:s.1=1∧s.2≠[]
    ·obtain rfl:ks=1:=hks.trans h1.1
     have hm0:(0:Int)<(ml:Int):=by have:=List.length_pos_iff.2 h1.2;omega
     have hmn:0<ml:=by omega
     have hmf5:ml<5000:=by have:=HFT.out;omega
     have hsep:=hid (fun b' off' m' c' (e:vr=.slice (some ⟨b',off',none⟩) m' c') (_:0<m')=>own_apart HY.out.orun HY.out.oseg (by decide) b' (by rw [e];rfl))
     have CF:=hid (flush_any w.heap.size w.heap.size (w.heap.size+1) w.heap.size vr vn run d _ HY.out.b1 HY.out.b2 (by omega) (U32s.of_own HY.out.orun HY.out.lt) ⟨q,HY.out.oseg,HY.out.nums,HY.out.ap1,HY.out.fresh⟩ hsep.out (by have:=HW.out;simp;omega) (by have:=HW.out;simp;omega) (by omega) (by omega))
     have HS1:=hid h1
     have HKD:=hid (show (d ++ cuts 2 run).length≤40000 by
      have h7:(cuts 2 run).length≤run.length:=by unfold cuts cutN;rw [List.length_map,List.length_range];omega
      rw [List.length_append]
      omega)
     have k3:(wr.alloc (.cells #[.int .i64 1,.slice Ax ml cx] 108)).cell? ⟨wr.heap.size,1,none⟩=some (.slice Ax ml cx):=by simp
     have HK3:=hid k3
     obtain ⟨l5,hl5⟩:∃ l5,l5=setOf s.2:=⟨_,rfl⟩
     have HL5:=hid hl5
     clear hks hml h2 hk2 h1 hsep hl5 k3
     go_wp2_with (go_at_call 174;refine (CF.out).mono ?_;rintro e Z ⟨⟨v0,rfl⟩,v1,g1,g2,⟨q',go,gn,ga,gfr⟩,gat,gsp⟩)
     have hbZ:Below w.heap.size w Z:=HY.out.rest.trans (gsp.of_below HY.out.rest.size (by omega) (Nat.le_refl _) fun b' e=>(HY.out.oseg.lt b' e).1)
     have hltY:wr.heap.size<(wr.alloc (.cells #[.int .i64 1,.slice Ax ml cx] 108)).heap.size:=by simp
     have jz:Z.cell? ⟨wr.heap.size,1,none⟩=some (.slice Ax ml cx):=(World.cell?_of_block (gsp.block wr.heap.size hltY (by have:=HWR.out.1;omega) (by have:=HWR.out.1;omega) (fun e=>by have:=HWR.out.2 _ e.symm;omega))).trans HK3.out
     have CS:=hid (Srt.set_new (.slice Ax ml cx) s.2 Z.drew ((HX0.out.keep hbZ).keep ((Below.refl _ _).drew)) (by have:=HML.out;omega) (by have:=HML.out;omega))
     rw [← HL5.out] at CS
     have HNB:=hid (show some wr.heap.size≠v1.ownBlock from fun e=>by
      rcases gat with h | ⟨b',h,h3⟩
      ·rw [h] at e
       have:=HWR.out.2 _ e.symm
       omega
      ·rw [h] at e
       injection e with e
       omega)
     have GZ:=hid (show Boxed Z w.heap.size _ v1∧wr.heap.size<Z.heap.size from ⟨g2,Nat.lt_of_lt_of_le hltY gsp.size⟩)
     obtain ⟨L,hL⟩:∃ L,L=(d ++ cuts 2 run).length:=⟨_,rfl⟩
     rw [← hL] at go
     have hL4:L≤40000:=by have:=HKD.out;omega
     obtain ⟨Av,cv,rfl⟩:=own_form go
     have HWZ:=hid hbZ.size
     have hEnd:∀ (A1:Option Addr) (c1:Nat) (A4:Option Addr) (c4:Nat) (Z1 Z2:World),Below Z.heap.size Z Z1→U32s Z1 (.slice A1 l5.length c1) l5→Srt.NewV Z.drew (.returned (.slice A1 l5.length c1)) →
       Z2.ownsRow w.heap.size 108 2 (.slice A4 (L+1) c4) (L+1) (segCells (d ++ cuts 2 run) q' ++ [.int .i64 1,.slice A1 l5.length c1])→(Z1.alloc (.cells #[.int .i64 1,.slice A1 l5.length c1] 108)).grownBy Z2 (Value.slice Av L cv).ownBlock →
       ((Value.slice A4 (L+1) c4).ownBlock=(Value.slice Av L cv).ownBlock∨(Value.slice A4 (L+1) c4).ownBlock=some (Z1.alloc (.cells #[.int .i64 1,.slice A1 l5.length c1] 108)).heap.size) →
       Below w.heap.size (Z1.alloc (.cells #[.int .i64 1,.slice A1 l5.length c1] 108)) Z2 →
       ∃ q2,NormAt w (p.take (i+1)) (.slice none 0 0) (.slice A4 (L+1) c4) [] (d ++ cuts 2 run ++ [(1,setOf s.2)]) q2 (Z2.setCell ⟨w.heap.size,0,none⟩ (.slice A4 (L+1) c4)):=fun A1 c1 A4 c4 Z1 Z2 hb1r hu2 hnew hown4 hg4 hat4 hb4=>by
      rw [HTK.out]
      have h5:=HL5.out
      subst h5
      exact HY.out.set_ HS1.out.1 HS1.out.2 hL g1 g2 go gn ga gfr hbZ hb1r hu2 (fun b off m' c e=>hnew _ b off m' c rfl e) hown4 hg4 hat4 hb4 rfl
     have HEND:=hid hEnd
     have GO:=hid go
     have k4:=g2.cell
     clear hEnd hL go gn ga gfr gat gsp g1 g2 hbZ hltY
     refine wp_region_held_drew (S:=fun w'=>w'.cell? ⟨wr.heap.size,1,none⟩=some (.slice Ax ml cx)) (by kernel_rfl) jz (fun h0=>?_)
     refine wpAnyH_take (i:=1) (oi:=_) (v:=?_) rfl (by kernel_rfl) (by kernel_rfl) (by kernel_rfl) (fun _ _ _ h=>h) (Or.inl ⟨by rfl,?_⟩) h0 ?_
     rotate_left
     ·(intro w hSw;(try dsimp only at hSw);go_simp)
      try with_reducible rfl
     try simp only [Act.put,List.setIfInBounds_toArray]
     refine wpAnyH_take (i:=2) (oi:=_) (v:=?_) rfl (by kernel_rfl) (by kernel_rfl) (by kernel_rfl) (fun _ _ _ h=>h) (Or.inl ⟨by rfl,?_⟩) h0 ?_
     rotate_left
     ·(intro w hSw;(try dsimp only at hSw);go_simp)
      try with_reducible rfl
     try simp only [Act.put]
     refine wpAnyH_ready (rs:=[0,3]) (by kernel_rfl) (by simp) ?_
     refine AllReadyH.cons rfl (fun K hK=>?_) (AllReadyH.cons rfl (fun K hK=>?_) AllReadyH.nil)
     ·go_simp
      refine hK.out _ _ h0 (fun h1=>?_)
      clear hK K
      try simp only [Act.put,List.setIfInBounds_toArray,List.set_cons_zero,List.set_cons_succ]
      refine wpAnyH_ready (rs:=[3]) (by kernel_rfl) (by simp) ?_
      refine AllReadyH.cons rfl (fun K hK=>?_) AllReadyH.nil
      go_simp
      go_at_call 163
      refine (CS.out).mono ?_
      rintro e Z1 ⟨⟨v2,rfl,hu2,hb2⟩,hnew⟩
      obtain ⟨A1,c1,rfl,-⟩:=hu2.open_
      have hb1r:Below Z.heap.size Z Z1:=Go.RowKit.Below.trans ((Below.refl _ _).drew) hb2
      have r1:Boxed Z1 w.heap.size _ _:=below_box hb1r GZ.out.1.lt GZ.out.1
      have HO1:=hid (own_keep GO.out hb1r)
      have cN1:=r1.cell
      have cN2:=(r1.alloc (.cells #[.int .i64 1,.slice A1 l5.length c1] 108)).cell
      have x1:=(hb1r.cell (p:=⟨wr.heap.size,1,none⟩) GZ.out.2).trans jz
      refine hK.out _ _ x1 (fun h2=>?_)
      clear hK K
      try simp only [Act.put,List.setIfInBounds_toArray,List.set_cons_zero,List.set_cons_succ]
      refine wpAnyH_take (i:=4) (oi:=_) (v:=?_) rfl (by kernel_rfl) (by kernel_rfl) (by kernel_rfl) (fun _ _ _ h=>h) (Or.inl ⟨by rfl,?_⟩) h2 ?_
      rotate_left
      ·(intro w hSw;(try dsimp only at hSw);go_simp)
       try with_reducible rfl
      try simp only [Act.put,List.setIfInBounds_toArray]
      refine wpAnyH_ready (rs:=[5]) (by kernel_rfl) (by simp) ?_
      refine AllReadyH.cons rfl (fun K hK=>?_) AllReadyH.nil
      go_simp
      refine hK.out _ _ (((Below.refl _ Z1).alloc (Nat.le_refl _) _).cell (p:=⟨wr.heap.size,1,none⟩) (Nat.lt_of_lt_of_le GZ.out.2 hb1r.size) |>.trans x1) (fun h3=>?_)
      clear hK K
      try simp only [Act.put,List.setIfInBounds_toArray,List.set_cons_zero,List.set_cons_succ]
      refine wpAnyH_ready (rs:=[6]) (by kernel_rfl) (by simp) ?_
      refine AllReadyH.cons rfl (fun K hK=>?_) AllReadyH.nil
      refine step_append_row (by rfl) (.tmp 35) (.tmp 40) (by rfl) E1 w.heap.size _ L _ (by rfl) (HO1.out.alloc _) _ 1 [.int .i64 1,.slice A1 l5.length c1] (by rfl) ?_ (ones_two _ _ _ _) ?_ ?_ ?_ (L+1) rfl ?_
      ·exact row_seg_at _ _ _ _ rfl
      ·unfold maxLen;omega
      ·omega
      ·have:=HWZ.out;have:=hb1r.size;simp;omega
      intro A4 c4 Z2 hown4 hg4 hat4 hb4
      have r3:Boxed Z2 w.heap.size _ _:=(r1.alloc _).kept hg4 (r1.not_row (by decide) HO1.out)
      have cN3:=r3.cell
      have fN3:=r3.frozen
      have x2:Z2.cell? ⟨wr.heap.size,1,none⟩=some (.slice Ax ml cx):=(World.cell?_of_block (hg4.block wr.heap.size (by have:=GZ.out.2;have:=hb1r.size;simp;omega) (HNB.out))).trans ((hb1r.alloc hb1r.size _).cell (p:=⟨wr.heap.size,1,none⟩) GZ.out.2 |>.trans jz)
      refine hK.out _ _ x2 (fun h4=>?_)
      clear hK K
      try simp only [Act.put,List.setIfInBounds_toArray]
      refine wpAnyH_ready (rs:=[7]) (by kernel_rfl) (by simp) ?_
      refine AllReadyH.cons rfl (fun K hK=>?_) AllReadyH.nil
      have x3:(Z2.setCell ⟨w.heap.size,0,none⟩ (.slice A4 (L+1) c4)).cell? ⟨wr.heap.size,1,none⟩=some (.slice Ax ml cx):=(World.cell?_setCell_other _ _ _ _ (fun e=>by have:=HWR.out.1;injection e with e;omega)).trans x2
      go_simp
      refine hK.out _ _ x3 (fun _=>?_)
      clear hK K
      try simp only [Act.put,List.setIfInBounds_toArray,List.set_cons_zero,List.set_cons_succ]
      refine wpAnyH_done (by kernel_rfl) ?_ _
      have HE:=hid (HEND.out A1 c1 A4 c4 Z1 Z2 hb1r hu2 (fun v b off m' c' e e2=>hnew v b off m' c' e e2) hown4 hg4 hat4 hb4)
      go_wp2
      go_roundw
      case rel=>exact ⟨i+1,by omega,by go_num,hid ⟨_,_,_,_,HE.out⟩⟩
      case measure=>simp [intOf];omega
     ·go_simp
      go_at_call 163
      refine (CS.out).mono ?_
      rintro e Z1 ⟨⟨v2,rfl,hu2,hb2⟩,hnew⟩
      obtain ⟨A1,c1,rfl,-⟩:=hu2.open_
      have hb1r:Below Z.heap.size Z Z1:=Go.RowKit.Below.trans ((Below.refl _ _).drew) hb2
      have r1:Boxed Z1 w.heap.size _ _:=below_box hb1r GZ.out.1.lt GZ.out.1
      have HO1:=hid (own_keep GO.out hb1r)
      have cN1:=r1.cell
      have cN2:=(r1.alloc (.cells #[.int .i64 1,.slice A1 l5.length c1] 108)).cell
      have x1:=(hb1r.cell (p:=⟨wr.heap.size,1,none⟩) GZ.out.2).trans jz
      refine hK.out _ _ x1 (fun h2=>?_)
      clear hK K
      try simp only [Act.put,List.setIfInBounds_toArray,List.set_cons_zero,List.set_cons_succ]
      refine wpAnyH_take (i:=4) (oi:=_) (v:=?_) rfl (by kernel_rfl) (by kernel_rfl) (by kernel_rfl) (fun _ _ _ h=>h) (Or.inl ⟨by rfl,?_⟩) h2 ?_
      rotate_left
      ·(intro w hSw;(try dsimp only at hSw);go_simp)
       try with_reducible rfl
      try simp only [Act.put,List.setIfInBounds_toArray]
      refine wpAnyH_ready (rs:=[0,5]) (by kernel_rfl) (by simp) ?_
      refine AllReadyH.cons rfl (fun K hK=>?_) (AllReadyH.cons rfl (fun K hK=>?_) AllReadyH.nil)
      focus
       go_simp
       refine hK.out _ _ h2 (fun h3=>?_)
       clear hK K
       try simp only [Act.put,List.setIfInBounds_toArray,List.set_cons_zero,List.set_cons_succ]
       refine wpAnyH_ready (rs:=[5]) (by kernel_rfl) (by simp) ?_
       refine AllReadyH.cons rfl (fun K hK=>?_) AllReadyH.nil
       go_simp
       refine hK.out _ _ (((Below.refl _ Z1).alloc (Nat.le_refl _) _).cell (p:=⟨wr.heap.size,1,none⟩) (Nat.lt_of_lt_of_le GZ.out.2 hb1r.size) |>.trans x1) (fun h3=>?_)
      rotate_left
      focus
       go_simp
       refine hK.out _ _ (((Below.refl _ Z1).alloc (Nat.le_refl _) _).cell (p:=⟨wr.heap.size,1,none⟩) (Nat.lt_of_lt_of_le GZ.out.2 hb1r.size) |>.trans x1) (fun h3=>?_)
       clear hK K
       try simp only [Act.put,List.setIfInBounds_toArray,List.set_cons_zero,List.set_cons_succ]
       refine wpAnyH_ready (rs:=[0]) (by kernel_rfl) (by simp) ?_
       refine AllReadyH.cons rfl (fun K hK=>?_) AllReadyH.nil
       go_simp
       refine hK.out _ _ h3 (fun h5=>?_)
      all_goals
       clear hK K
       try simp only [Act.put,List.setIfInBounds_toArray,List.set_cons_zero,List.set_cons_succ]
       refine wpAnyH_ready (rs:=[6]) (by kernel_rfl) (by simp) ?_
       refine AllReadyH.cons rfl (fun K hK=>?_) AllReadyH.nil
       refine step_append_row (by rfl) (.tmp 35) (.tmp 40) (by rfl) E1 w.heap.size _ L _ (by rfl) (HO1.out.alloc _) _ 1 [.int .i64 1,.slice A1 l5.length c1] (by rfl) ?_ (ones_two _ _ _ _) ?_ ?_ ?_ (L+1) rfl ?_
       ·exact row_seg_at _ _ _ _ rfl
       ·unfold maxLen;omega
       ·omega
       ·have:=HWZ.out;have:=hb1r.size;simp;omega
       intro A4 c4 Z2 hown4 hg4 hat4 hb4
       have r3:Boxed Z2 w.heap.size _ _:=(r1.alloc _).kept hg4 (r1.not_row (by decide) HO1.out)
       have cN3:=r3.cell
       have fN3:=r3.frozen
       have x2:Z2.cell? ⟨wr.heap.size,1,none⟩=some (.slice Ax ml cx):=(World.cell?_of_block (hg4.block wr.heap.size (by have:=GZ.out.2;have:=hb1r.size;simp;omega) (HNB.out))).trans ((hb1r.alloc hb1r.size _).cell (p:=⟨wr.heap.size,1,none⟩) GZ.out.2 |>.trans jz)
       refine hK.out _ _ x2 (fun h4=>?_)
       clear hK K
       try simp only [Act.put,List.setIfInBounds_toArray]
       refine wpAnyH_ready (rs:=[7]) (by kernel_rfl) (by simp) ?_
       refine AllReadyH.cons rfl (fun K hK=>?_) AllReadyH.nil
       have x3:(Z2.setCell ⟨w.heap.size,0,none⟩ (.slice A4 (L+1) c4)).cell? ⟨wr.heap.size,1,none⟩=some (.slice Ax ml cx):=(World.cell?_setCell_other _ _ _ _ (fun e=>by have:=HWR.out.1;injection e with e;omega)).trans x2
       go_simp
       refine hK.out _ _ x3 (fun _=>?_)
       clear hK K
       try simp only [Act.put,List.setIfInBounds_toArray,List.set_cons_zero,List.set_cons_succ]
       refine wpAnyH_done (by kernel_rfl) ?_ _
       have HE:=hid (HEND.out A1 c1 A4 c4 Z1 Z2 hb1r hu2 (fun v b off m' c' e e2=>hnew v b off m' c' e e2) hown4 hg4 hat4 hb4)
       go_wp2
       go_roundw
       case rel=>exact ⟨i+1,by omega,by go_num,hid ⟨_,_,_,_,HE.out⟩⟩
       case measure=>simp [intOf];omega
    ·have HR:=hid (HY.out.drop h2 h1)
     rw [← HTK.out] at HR
     by_cases hk1:ks=1
     focus
      subst hk1
      obtain rfl:ml=0:=by
       rw [hml]
       by_cases h0:s.2=[]
       ·rw [h0];rfl
       ·exact absurd ⟨hks.symm,h0⟩ h1
      clear hks hml h2 h1
     rotate_left
     focus
      clear hks hml h2 h1
     all_goals
      go_wp2
      go_roundw
      case rel=>exact ⟨i+1,by omega,by go_num,hid ⟨_,_,_,_,_,HR.out⟩⟩
      case measure=>simp [intOf];omega
  ·have he:p.take i=p:=List.take_of_length_le (by omega)
   rw [he] at hN
   have hlen:run.length+d.length≤40000:=Nat.le_trans hN.len HBK.out
   have HN:=hid hN
   have hsep:=hid (fun b' off' m' c' (e:vr=.slice (some ⟨b',off',none⟩) m' c') (_:0<m')=>own_apart HN.out.orun HN.out.oseg (by decide) b' (by rw [e];rfl))
   have CF:=hid (flush_any w.heap.size w.heap.size (w.heap.size+1) w.heap.size vr vn run d _ HN.out.b1 HN.out.b2 (by omega) (U32s.of_own HN.out.orun HN.out.lt) ⟨q,HN.out.oseg,HN.out.nums,HN.out.ap1,HN.out.fresh⟩ hsep.out HN.out.rest.size HN.out.rest.size (by omega) (by omega))
   clear hN hsep
   go_wp2_with (go_at_call 174;refine (CF.out).mono ?_;rintro e Z ⟨⟨v0,rfl⟩,v1,g1,g2,gs,gat,gsp⟩;have k1:=g2.cell)
   go_ret
   refine ⟨_,rfl,?_,?_⟩
   ·have:=gs
    rw [Segm.norm_end HN.out.shut HN.out.is,← HT.out] at this
    exact this
   ·exact HN.out.rest.trans (gsp.of_below HN.out.rest.size (by omega) (Nat.le_refl _) fun b' e=>(HN.out.oseg.lt b' e).1)
end Seg
end Go.Proofs.YtjfmompgkkdliaaGreatDoor
