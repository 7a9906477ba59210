/- Part of the proof. -/
import Derived.Test.YtjfmompgkkdliaaGreatDoorG41
import Derived.Test.YtjfmompgkkdliaaGreatDoorG27
import Derived.Test.YtjfmompgkkdliaaGreatDoorG02
import Derived.Test.YtjfmompgkkdliaaGreatDoorG03
import Derived.Laws.CopyOwn
import Derived.Test.YtjfmompgkkdliaaGreatDoorG07
import Derived.Deep.DeepCutAuto
import Derived.Deep.RegionWith
import Derived.Test.YtjfmompgkkdliaaGreatDoorG10
import Derived.Test.YtjfmompgkkdliaaGreatDoorG04
open Go.Lib (hid)
set_option maxRecDepth 100000
set_option maxHeartbeats 40000000
namespace Go.Proofs.YtjfmompgkkdliaaGreatDoor
namespace Upd
open Go.RowKit Mem Segm Oct Att Seg PR
theorem u8s_nil_any {W W2:World} {v:Value} (h:U8s W v []):U8s W2 v []:=by
 obtain ⟨⟨hl,A,c,rfl,hn,hc,-⟩,hs⟩:=h
 exact ⟨⟨hl,A,c,rfl,hn,hc,fun h0=>absurd h0 (Nat.lt_irrefl 0)⟩,hs⟩
def DecU (b:List Nat) (w:World) (e:Ending) (w':World):Prop :=
 ∃ vu vn,e=.returned (.tuple #[vu,vn])∧UpdF w.heap.size w' vu (outU (decU b)).1∧Note w' vn (outU (decU b)).2∧Below w.heap.size w w'
structure RdU (w W:World):Prop where
 ru:BoxU W w.heap.size 31 zeroA (.slice none 0 0) (.slice none 0 0) (.slice none 0 0) (.slice none 0 0)
 r3:Box3 W (w.heap.size+1) 34 (.int .i64 0) (.int .i64 0) (.slice none 0 0)
 low:Below w.heap.size w W
theorem RdU.below {w W W2:World} (h:RdU w W) (hb:Below W.heap.size W W2):RdU w W2:=⟨h.ru.keep hb,h.r3.keep hb,h.low.trans (hb.mono h.low.size)⟩
def endU (w W:World) (a:At) (vg vp vc vh x y z:Value):World:=(W.setRow w.heap.size #[vg,.int .i64 a.has,.int .i64 a.origin,vp,.int .u32 a.hop,.int .u32 a.med,.int .u32 a.pref,.int .u32 a.aas,.int .u32 a.aid,vc,vh]).setRow (w.heap.size+1) #[x,y,z]
section
variable {w W W2:World} {a:At} {vg vp vc vh x y z:Value}
theorem RdU.mid (h:RdU w W) (cs:Array Value):(W.setRow w.heap.size cs).heap[w.heap.size+1]?=some (.cells #[.int .i64 0,.int .i64 0,.slice none 0 0] 34 (0,0)) :=
 (setRow_other W w.heap.size (w.heap.size+1) cs (by omega)).trans h.r3.blk
theorem endU_off (w W:World) (a:At) (vg vp vc vh x y z:Value):(∀ k,w.heap.size+2≤k→(endU w W a vg vp vc vh x y z).heap[k]?=W.heap[k]?)∧W.heap.size≤(endU w W a vg vp vc vh x y z).heap.size :=
 ⟨fun k hk=>(setRow_other _ _ k _ (by omega)).trans (setRow_other _ _ k _ (by omega)),by simp [endU]⟩
theorem RdU.fin (h:RdU w W) (a:At) (vg vp vc vh x y z:Value):BoxU (endU w W a vg vp vc vh x y z) w.heap.size 31 a vg vp vc vh∧Box3 (endU w W a vg vp vc vh x y z) (w.heap.size+1) 34 x y z∧Below w.heap.size w (endU w W a vg vp vc vh x y z) :=
 ⟨⟨(setRow_other _ _ _ _ (by omega)).trans (setRow_heap W w.heap.size _ _ _ _ h.ru.blk)⟩,⟨setRow_heap _ _ _ _ _ _ (h.mid _)⟩,below_setRow (below_setRow h.low (Nat.le_refl _) _) (by omega) _⟩
end
def endZ (w W:World) (x y z:Value):World:=(W.setRow w.heap.size #[.slice none 0 0,.int .i64 0,.int .i64 0,.slice none 0 0,.int .u32 0,.int .u32 0,.int .u32 0,.int .u32 0,.int .u32 0,.slice none 0 0,.slice none 0 0]).setRow (w.heap.size+1) #[x,y,z]
theorem RdU.finZ {w W:World} (h:RdU w W) (x y z:Value):((endZ w W x y z).cell? ⟨w.heap.size,0,none⟩=some (.slice none 0 0)∧(endZ w W x y z).cell? ⟨w.heap.size,1,none⟩=some (.int .i64 0)∧(endZ w W x y z).cell? ⟨w.heap.size,2,none⟩=some (.int .i64 0)∧(endZ w W x y z).cell? ⟨w.heap.size,3,none⟩=some (.slice none 0 0)∧(endZ w W x y z).cell? ⟨w.heap.size,4,none⟩=some (.int .u32 0)∧(endZ w W x y z).cell? ⟨w.heap.size,5,none⟩=some (.int .u32 0)∧(endZ w W x y z).cell? ⟨w.heap.size,6,none⟩=some (.int .u32 0)∧(endZ w W x y z).cell? ⟨w.heap.size,7,none⟩=some (.int .u32 0)∧(endZ w W x y z).cell? ⟨w.heap.size,8,none⟩=some (.int .u32 0)∧(endZ w W x y z).cell? ⟨w.heap.size,9,none⟩=some (.slice none 0 0)∧(endZ w W x y z).cell? ⟨w.heap.size,10,none⟩=some (.slice none 0 0))∧(endZ w W x y z).cell? ⟨w.heap.size+1,0,none⟩=some x∧(endZ w W x y z).cell? ⟨w.heap.size+1,1,none⟩=some y∧(endZ w W x y z).cell? ⟨w.heap.size+1,2,none⟩=some z :=
 ⟨(h.fin zeroA (.slice none 0 0) (.slice none 0 0) (.slice none 0 0) (.slice none 0 0) x y z).1.cells,(h.fin zeroA (.slice none 0 0) (.slice none 0 0) (.slice none 0 0) (.slice none 0 0) x y z).2.1.cells⟩
theorem RdU.bad {w W:World} (h:RdU w W) {b:List Nat} {n:No} {s:Int} {A:Option Addr} {m c:Nat} (hd:decU b=.inl n) (hn:n.code=3∧n.sub=s) (hw:(Lit.int .i64 s).wf=true) (hU:U8s W (.slice A m c) n.data) (hA:∀ g,(Value.slice A m c).ownBlock=some g→w.heap.size+2≤g) :
  DecU b w (.returned (.tuple #[.agg #[.slice none 0 0,.int .i64 0,.int .i64 0,.slice none 0 0,.int .u32 0,.int .u32 0,.int .u32 0,.int .u32 0,.int .u32 0,.slice none 0 0,.slice none 0 0],.agg #[.int .i64 3,.int .i64 s,.slice A m c]])) (endU w W zeroA (.slice none 0 0) (.slice none 0 0) (.slice none 0 0) (.slice none 0 0) (.int .i64 3) (.int .i64 s) (.slice A m c)):=by
 have ho:=endU_off w W zeroA (.slice none 0 0) (.slice none 0 0) (.slice none 0 0) (.slice none 0 0) (.int .i64 3) (.int .i64 s) (.slice A m c)
 unfold DecU
 rw [hd]
 obtain ⟨n1,n2⟩:=hn
 refine ⟨_,_,rfl,updF_zero _ _,⟨by show (Lit.int .i64 n.code).wf=true;rw [n1];decide,by show (Lit.int .i64 n.sub).wf=true;rw [n2];exact hw,_,by show _=Value.agg #[.int .i64 n.code,.int .i64 n.sub,_];rw [n1,n2],hU.part (fun g hg=>ho.1 g (hA g hg)) ho.2⟩,(h.fin _ _ _ _ _ _ _ _).2.2⟩
theorem RdU.badN {w W:World} (h:RdU w W) {b:List Nat} {n:No} {A:Option Addr} {m c:Nat} (hd:decU b=.inl n) (hN:Note W (.agg #[.int .i64 n.code,.int .i64 n.sub,.slice A m c]) n) :
  DecU b w (.returned (.tuple #[.agg #[.slice none 0 0,.int .i64 0,.int .i64 0,.slice none 0 0,.int .u32 0,.int .u32 0,.int .u32 0,.int .u32 0,.int .u32 0,.slice none 0 0,.slice none 0 0],.agg #[.int .i64 n.code,.int .i64 n.sub,.slice A m c]])) (endZ w W (.int .i64 n.code) (.int .i64 n.sub) (.slice A m c)):=by
 obtain ⟨h1,h2,vd,h3,h4⟩:=hN
 have e:vd=.slice A m c:=by
  injection h3 with h3
  have:=congrArg (fun (x:Array Value)=>x[2]?) h3
  simpa using this.symm
 subst e
 have k1:∀ i (k:Int),W.cell? ⟨w.heap.size,i,none⟩≠some (.int .u8 k):=no8_cells h.ru.blk (fun x hx m e=>by subst e;simp at hx)
 have k2:∀ i (k:Int),(W.setRow w.heap.size #[.slice none 0 0,.int .i64 0,.int .i64 0,.slice none 0 0,.int .u32 0,.int .u32 0,.int .u32 0,.int .u32 0,.int .u32 0,.slice none 0 0,.slice none 0 0]).cell? ⟨w.heap.size+1,i,none⟩≠some (.int .u8 k):=no8_cells (h.mid _) (fun x hx m e=>by subst e;simp at hx)
 have h5:=u8_apart (u8_apart h4 k1 (W':=W.setRow w.heap.size #[.slice none 0 0,.int .i64 0,.int .i64 0,.slice none 0 0,.int .u32 0,.int .u32 0,.int .u32 0,.int .u32 0,.int .u32 0,.slice none 0 0,.slice none 0 0]) (fun k hk=>setRow_other _ _ _ _ hk) (by simp)) k2 (W':=endZ w W (.int .i64 n.code) (.int .i64 n.sub) (.slice A m c)) (fun k hk=>setRow_other _ _ _ _ hk) (by simp [endZ])
 unfold DecU
 rw [hd]
 exact ⟨_,_,rfl,updF_zero _ _,⟨h1,h2,_,rfl,h5⟩,(h.fin zeroA (.slice none 0 0) (.slice none 0 0) (.slice none 0 0) (.slice none 0 0) _ _ _).2.2⟩
theorem RdU.bad0 {w W:World} (h:RdU w W) {b:List Nat} {s:Nat} {si:Int} (hd:decU b=.inl ⟨3,s,[]⟩) (hi:si=(s:Int)) (hl:s≤255) :
  DecU b w (.returned (.tuple #[.agg #[.slice none 0 0,.int .i64 0,.int .i64 0,.slice none 0 0,.int .u32 0,.int .u32 0,.int .u32 0,.int .u32 0,.int .u32 0,.slice none 0 0,.slice none 0 0],.agg #[.int .i64 3,.int .i64 si,.slice none 0 0]])) (endU w W zeroA (.slice none 0 0) (.slice none 0 0) (.slice none 0 0) (.slice none 0 0) (.int .i64 3) (.int .i64 si) (.slice none 0 0)) :=
 h.bad hd ⟨rfl,hi.symm⟩ (by subst hi;simp [Lit.wf,IntKind.min,IntKind.max,IntKind.signed,IntKind.bits];omega) (U8s.nil _) (fun g hg=>by cases hg)
theorem atF_keep {n:Nat} {W W2:World} {v:Value} {a:At} (h:AtF n W v a) (hb:Below W.heap.size W W2):AtF n W2 v a:=by
 obtain ⟨h1,vp,vc,h2,h3,h4,h5⟩:=h
 exact ⟨h1,vp,vc,h2,h3.keep hb,h4.keep hb,h5⟩
theorem atF_lower {n m:Nat} {W:World} {v:Value} {a:At} (h:AtF n W v a) (hm:m≤n):AtF m W v a:=by
 obtain ⟨h1,vp,vc,h2,h3,h4,h5⟩:=h
 exact ⟨h1,vp,vc,h2,h3.lower hm hm,h4,h5.lower hm⟩
theorem dec16_of {R:List Nat} {W w':World} {e:Ending} (h:DecG R W e w'):∃ (a:At) (n:No) (Ap:Option Addr) (np cp:Nat) (Ac:Option Addr) (nc cc:Nat) (Ad:Option Addr) (nd cd:Nat),a=(outA (decodeA R)).1∧n=(outA (decodeA R)).2 ∧
  e=.returned (.tuple #[aV a (.slice Ap np cp) (.slice Ac nc cc),.agg #[.int .i64 n.code,.int .i64 n.sub,.slice Ad nd cd]])∧AtF W.heap.size w' (aV a (.slice Ap np cp) (.slice Ac nc cc)) a∧Note w' (.agg #[.int .i64 n.code,.int .i64 n.sub,.slice Ad nd cd]) n∧Below W.heap.size W w':=by
 obtain ⟨va,vn,h1,⟨h2,vp,vc,rfl,h3,h4,h5⟩,⟨h6,h7,vd,rfl,h8⟩,h9⟩:=h
 obtain ⟨Ap,cp,rfl⟩:=h3.form
 obtain ⟨Ac,cc,e4⟩:=h4.1.2
 obtain ⟨Ad,cd,rfl,-⟩:=h8.form
 obtain ⟨rfl,-⟩:=e4
 exact ⟨_,_,Ap,_,cp,Ac,_,cc,Ad,_,cd,rfl,rfl,h1,⟨h2,_,_,rfl,h3,h4,h5⟩,⟨h6,h7,_,rfl,h8⟩,h9⟩
def new16 (x:World):World:=(x.alloc (.cells #[.int .i64 0,.int .i64 0,.slice none 0 0,.int .u32 0,.int .u32 0,.int .u32 0,.int .u32 0,.int .u32 0,.slice none 0 0] 29)).alloc (.cells #[.int .i64 0,.int .i64 0,.slice none 0 0] 34)
theorem new16_9 (x:World):(new16 x).heap[x.heap.size]?=some (.cells #[.int .i64 0,.int .i64 0,.slice none 0 0,.int .u32 0,.int .u32 0,.int .u32 0,.int .u32 0,.int .u32 0,.slice none 0 0] 29 (0,0)) :=
 ((Box9.new x 29 (.int .i64 0) (.int .i64 0) (.slice none 0 0) (.int .u32 0) (.int .u32 0) (.int .u32 0) (.int .u32 0) (.int .u32 0) (.slice none 0 0)).keep ((Below.refl _ _).alloc (Nat.le_refl _) _)).blk
theorem new16_3 (x:World) (cs:Array Value):((new16 x).setRow x.heap.size cs).heap[x.heap.size+1]?=some (.cells #[.int .i64 0,.int .i64 0,.slice none 0 0] 34 (0,0)):=by
 have h:=Box3.new (x.alloc (.cells #[.int .i64 0,.int .i64 0,.slice none 0 0,.int .u32 0,.int .u32 0,.int .u32 0,.int .u32 0,.int .u32 0,.slice none 0 0] 29)) 34 (.int .i64 0) (.int .i64 0) (.slice none 0 0)
 have e:(x.alloc (.cells #[.int .i64 0,.int .i64 0,.slice none 0 0,.int .u32 0,.int .u32 0,.int .u32 0,.int .u32 0,.int .u32 0,.slice none 0 0] 29)).heap.size=x.heap.size+1:=by simp
 rw [e] at h
 exact (setRow_other _ _ _ _ (by omega)).trans h.blk
theorem new16_low (x:World):Below x.heap.size x (new16 x):=((Below.refl x.heap.size x).alloc (Nat.le_refl _) _).alloc (by simp) _
theorem zcells {W:World} {B:Nat} {t:TypeId} {vg vp vc vh:Value} (h:BoxU W B t zeroA vg vp vc vh):W.cell? ⟨B,0,none⟩=some vg∧W.cell? ⟨B,1,none⟩=some (.int .i64 0)∧W.cell? ⟨B,2,none⟩=some (.int .i64 0)∧W.cell? ⟨B,3,none⟩=some vp∧W.cell? ⟨B,4,none⟩=some (.int .u32 0)∧W.cell? ⟨B,5,none⟩=some (.int .u32 0)∧W.cell? ⟨B,6,none⟩=some (.int .u32 0)∧W.cell? ⟨B,7,none⟩=some (.int .u32 0)∧W.cell? ⟨B,8,none⟩=some (.int .u32 0)∧W.cell? ⟨B,9,none⟩=some vc∧W.cell? ⟨B,10,none⟩=some vh:=h.cells
theorem decA_code:∀ (n:Nat) (seen:List Nat) (a:At) (b:List Nat) (x:No),decA n seen a b=.inl x→x.code=3
 | 0,seen,a,b,x,h=>by unfold decA at h;cases h
 | n+1,seen,a,b,x,h=>by
  unfold decA at h
  split at h
  ·cases h
  ·cases hit:itemOf b with
   | none=>rw [hit] at h;injection h with h;rw [← h]
   | some y =>
    rw [hit] at h
    dsimp only at h
    split at h
    ·injection h with h;rw [← h]
    ·split at h
     ·exact decA_code n _ _ _ x h
     ·injection h with h
      rw [← h]
      unfold badN
      split <;> rfl
theorem note_nil {W W2:World} {n:No} {A:Option Addr} {m c:Nat} (h:Note W (.agg #[.int .i64 n.code,.int .i64 n.sub,.slice A m c]) n) (hn:n.data=[]):Note W2 (.agg #[.int .i64 n.code,.int .i64 n.sub,.slice A m c]) n:=by
 obtain ⟨h1,h2,vd,h3,h4⟩:=h
 have e:vd=.slice A m c:=by
  injection h3 with h3
  have:=congrArg (fun (x:Array Value)=>x[2]?) h3
  simpa using this.symm
 subst e
 rw [hn] at h4
 exact ⟨h1,h2,_,rfl,by rw [hn];exact u8s_nil_any h4⟩
theorem RdU.okN {w W:World} (h:RdU w W) {b:List Nat} {u:Up} {base:Nat} {vg vp vc vh:Value} {A:Option Addr} {m c:Nat} (hb:w.heap.size+2≤base) (hu:UpdF base W (uV u.at_ vg vp vc vh) u) (hn:Note W (.agg #[.int .i64 0,.int .i64 0,.slice A m c]) ⟨0,0,[]⟩) (hd:decU b=.inr u) :
  DecU b w (.returned (.tuple #[.agg #[vg,.int .i64 u.at_.has,.int .i64 u.at_.origin,vp,.int .u32 u.at_.hop,.int .u32 u.at_.med,.int .u32 u.at_.pref,.int .u32 u.at_.aas,.int .u32 u.at_.aid,vc,vh],.agg #[.int .i64 0,.int .i64 0,.slice A m c]])) (endU w W u.at_ vg vp vc vh (.int .i64 0) (.int .i64 0) (.slice A m c)):=by
 have hoff:=endU_off w W u.at_ vg vp vc vh (.int .i64 0) (.int .i64 0) (.slice A m c)
 unfold DecU
 rw [hd]
 exact ⟨_,_,rfl,(hu.off (fun k hk=>hoff.1 k (by omega)) hoff.2).lower (by omega),note_nil (n:=⟨0,0,[]⟩) hn rfl,(h.fin _ _ _ _ _ _ _ _).2.2⟩
end Upd
namespace Upd
open Go.RowKit Mem Segm Oct Att Seg PR
end Upd
namespace Msg
open Go.RowKit Mem Segm Oct Att Seg PR Opn Upd Ntc Frm
open Go.Lib (hid)
theorem NoteF.off {n:Nat} {W W':World} {v:Value} {x:No} (h:NoteF n W v x) (hk:∀ k,n≤k→W'.heap[k]?=W.heap[k]?):NoteF n W' v x:=let ⟨h1,h2,A,c,h3,h4,h5⟩:=h;⟨h1,h2,A,c,h3,own_off h4 hk,h5⟩
theorem NoteF.lower {n m:Nat} {W:World} {v:Value} {x:No} (h:NoteF n W v x) (hm:m≤n):NoteF m W v x:=let ⟨h1,h2,A,c,h3,h4,h5⟩:=h;⟨h1,h2,A,c,h3,own_base h4 hm,h5⟩
theorem MsF.off {n:Nat} {W W':World} {v:Value} {m:Ms} (h:MsF n W v m) (hk:∀ k,n≤k→W'.heap[k]?=W.heap[k]?) (hs:W.heap.size≤W'.heap.size):MsF n W' v m:=let ⟨U,N,h1,h2,h3,h4,h5⟩:=h;⟨U,N,h1,h2,h3,h4.off hk hs,h5.off hk⟩
theorem MsF.lower {n k:Nat} {W:World} {v:Value} {m:Ms} (h:MsF n W v m) (hm:k≤n):MsF k W v m:=let ⟨U,N,h1,h2,h3,h4,h5⟩:=h;⟨U,N,h1,h2,h3,h4.lower hm,h5.lower hm⟩
theorem fewN_twice (n:No):fewN (fewN n)=fewN n:=by
 unfold fewN
 dsimp only
 rw [List.take_take,Nat.min_self]
theorem fewM_twice (m:Ms):fewM (fewM m)=fewM m:=by
 unfold fewM
 dsimp only
 rw [fewU_twice m.up (cut8_few m.up.at_).few,fewN_twice]
def FewL (q:Ms) (w:World) (e:Ending) (w':World):Prop:=∃ U N,e=.returned (.agg (mcells q.kind (ocells q.op) U N).toArray)∧Parts (ocells q.op) U N∧MsF w.heap.size w' (.agg (mcells q.kind (ocells q.op) U N).toArray) q∧Below w.heap.size w w'
theorem few_lit {m q:Ms} {v:Value} {w:World} (h:Msgs w v m) (hq:fewM m=q):Calls Tryz.prog 7 #[v] w (FewL q w):=(few13 v m w h).mono fun e w' ⟨x,h1,h2,h3⟩=>by
 subst hq
 have h4:=h2
 obtain ⟨U,N,rfl,hp,-⟩:=h4
 exact ⟨U,N,h1,hp,h2,h3⟩
section
variable {o:Oper} {a:Act} {w:World} {Q:Exit→Act→World→Prop} {K:Act→World→Prop} {B:Nat} {k:Int} {O U N:List Value}
theorem wp_load_m (d:Nat) (hd:o.dst=some d) (hB:BoxM w B k O U N) (x:Operand) (ho:o.op=.load 36 x) (hx:a.eval x=.pointer (some ⟨B,0,none⟩)) (h:K (a.put (some d) (.agg (mcells k O U N).toArray)) w):o.wp Tryz.prog a w K Q:=by
 rw [← hd] at h
 exact wp_load_mid _ x ho B 0 hx _ _ hB.whole Tryz.underlying36 rfl (by rw [mcells_len hB.parts.lo hB.parts.lu hB.parts.ln];kernel_rfl) h
end
structure Kept13 (w:World) (q r:Ms) (Uq Nq Ur Nr:List Value) (W:World):Prop where
 bq:BoxM W w.heap.size q.kind (ocells q.op) Uq Nq
 br:BoxM W (w.heap.size+1) r.kind (ocells r.op) Ur Nr
 mq:Msgs W (.agg (mcells q.kind (ocells q.op) Uq Nq).toArray) q
 mr:Msgs W (.agg (mcells r.kind (ocells r.op) Ur Nr).toArray) r
 low:Below w.heap.size w W
theorem Kept13.keep {w W W':World} {q r:Ms} {Uq Nq Ur Nr:List Value} (h:Kept13 w q r Uq Nq Ur Nr W) (hb:Below W.heap.size W W'):Kept13 w q r Uq Nq Ur Nr W' :=
 ⟨h.bq.keep hb,h.br.keep hb,h.mq.keep hb,h.mr.keep hb,h.low.trans (hb.mono h.low.size)⟩
theorem kept13 {w W W4 W5:World} {q r:Ms} {Uq Nq Ur Nr:List Value} (hlow:Below w.heap.size w W) (hq:MsF (w.heap.size+2) W (.agg (mcells q.kind (ocells q.op) Uq Nq).toArray) q) (hr:MsF (w.heap.size+2) W (.agg (mcells r.kind (ocells r.op) Ur Nr).toArray) r)
  (b4:BoxM W4 w.heap.size q.kind (ocells q.op) Uq Nq) (t4:Turned w.heap.size W W4) (b5:BoxM W5 (w.heap.size+1) r.kind (ocells r.op) Ur Nr) (t5:Turned (w.heap.size+1) W4 W5):Kept13 w q r Uq Nq Ur Nr W5:=by
 have hk:∀ k,w.heap.size+2≤k→W5.heap[k]?=W.heap[k]?:=fun k hk=>(t5.block k (by omega)).trans (t4.block k (by omega))
 have hs:W.heap.size≤W5.heap.size:=by rw [t5.size,t4.size];exact Nat.le_refl _
 exact ⟨b4.turned t5 (Nat.succ_ne_self _).symm,b5,(hq.off hk hs).msgs,(hr.off hk hs).msgs,t5.low (Nat.le_succ _) (t4.low (Nat.le_refl _) hlow)⟩
theorem two_start (w:World) {k k2:Int} {O U N O2 U2 N2:List Value} (h:Parts O U N) (h2:Parts O2 U2 N2):BoxM ((w.alloc (.cells (mcells k O U N).toArray 36)).alloc (.cells (mcells k2 O2 U2 N2).toArray 36)) w.heap.size k O U N ∧
  BoxM ((w.alloc (.cells (mcells k O U N).toArray 36)).alloc (.cells (mcells k2 O2 U2 N2).toArray 36)) (w.heap.size+1) k2 O2 U2 N2∧Below w.heap.size w ((w.alloc (.cells (mcells k O U N).toArray 36)).alloc (.cells (mcells k2 O2 U2 N2).toArray 36)):=by
 have b1:=box_msg w (mcells k O U N).toArray
 have b2:=box_msg (w.alloc (.cells (mcells k O U N).toArray 36)) (mcells k2 O2 U2 N2).toArray
 have hs:(w.alloc (.cells (mcells k O U N).toArray 36)).heap.size=w.heap.size+1:=by simp
 have h3:=BoxM.new (w.alloc (.cells (mcells k O U N).toArray 36)) 36 k2 h2
 rw [hs] at h3
 exact ⟨(BoxM.new w _ k h).keep b2,h3,b1.trans (b2.mono b1.size)⟩
def OnlyL (m:Ms) (w:World) (e:Ending) (w':World):Prop:=∃ U N,e=.returned (.agg (mcells m.kind (ocells m.op) U N).toArray)∧Msgs w' (.agg (mcells m.kind (ocells m.op) U N).toArray) m∧Below w.heap.size w w'
end Msg
namespace Upd
open Go.RowKit Mem Segm Oct Att Seg PR
theorem ufault_any (s:Int) (w:World):Calls Tryz.prog 91 #[.int .i64 s] w (Tells (.agg #[.int .i64 3,.int .i64 s,.slice none 0 0]) w):=by
 have HB:=hid ((Below.refl w.heap.size w).alloc (Nat.le_refl _) (.cells #[.int .i64 3,.int .i64 s,.slice none 0 0] 34))
 go_enter Tryz.func91,Tryz.ntmps91
 go_wp2
 (try simp only [Exit.inBlock,Exit.then])
 refine bodyPost_ret (v:=.agg #[.int .i64 3,.int .i64 s,.slice none 0 0]) (by simp [results,Tryz.results91,go_sem]) rfl ?_
 exact ⟨rfl,HB.out⟩
section
variable {W W2:World} {base n:Nat} {F:Nat→Prop}
theorem own2_on {e:TypeId} {v:Value} {m:Nat} {xs:List Value} (h:W.ownsRow base e 2 v m xs) (ho:Only F W W2) (hF:∀ k,F k→k<base):W2.ownsRow base e 2 v m xs :=
 own_same2 h fun g hg=>ho.block g (h.lt g hg).2 (fun hf=>by have:=hF g hf;have:=(h.lt g hg).1;omega)
theorem atF_on {v:Value} {a:At} (h:AtF n W v a) (ho:Only F W W2) (hF:∀ k,F k→k<n):AtF n W2 v a:=by
 obtain ⟨h1,vp,vc,h2,h3,h4,h5⟩:=h
 exact ⟨h1,vp,vc,h2,segs_on h3 ho hF,u32_on h4 h5 ho hF,h5⟩
def GoP (base:Nat) (G:List Nat) (vg:Value) (er:Int) (W:World):Prop :=
 (dec val G=none∧er=2)∨∃ L A c,dec val G=some L∧er=0∧vg=.slice A L.length c∧W.ownsRow base 67 2 (.slice A L.length c) L.length (pcells L)∧Oks L
theorem GoP.on {G:List Nat} {vg:Value} {er:Int} (h:GoP base G vg er W) (ho:Only F W W2) (hF:∀ k,F k→k<base):GoP base G vg er W2:=by
 rcases h with h | ⟨L,A,c,h1,h2,h3,h4,h5⟩
 ·exact .inl h
 ·exact .inr ⟨L,A,c,h1,h2,h3,own2_on h4 ho hF,h5⟩
theorem GoP.lower {G:List Nat} {vg:Value} {er:Int} (h:GoP base G vg er W) (hn:n≤base):GoP n G vg er W:=by
 rcases h with h | ⟨L,A,c,h1,h2,h3,h4,h5⟩
 ·exact .inl h
 ·exact .inr ⟨L,A,c,h1,h2,h3,own_base h4 hn,h5⟩
theorem decO_of {G:List Nat} {e:Ending} (h:DecO G W e W2):∃ A m c er,e=.returned (.tuple #[.slice A m c,.int .i64 er])∧GoP W.heap.size G (.slice A m c) er W2∧Below W.heap.size W W2:=by
 rcases h with ⟨h1,h2,h3⟩ | ⟨L,A,c,h1,h2,h3,h4,h5⟩
 ·exact ⟨none,0,0,2,h2,.inl ⟨h1,rfl⟩,h3⟩
 ·exact ⟨A,L.length,c,0,h2,.inr ⟨L,A,c,h1,rfl,rfl,h3,h4⟩,h5⟩
theorem only_setRow (W:World) (b:Nat) (cs:Array Value):Only (fun k=>k=b) W (W.setRow b cs) :=
 ⟨rfl,rfl,rfl,by simp,fun k _ hk=>setRow_other _ _ _ _ hk⟩
end
theorem RdU.on {w W W2:World} {F:Nat→Prop} (h:RdU w W) (ho:Only F W W2) (hF:∀ k,F k→w.heap.size+2≤k):RdU w W2 :=
 ⟨⟨(ho.block _ h.ru.lt (fun hf=>by have:=hF _ hf;omega)).trans h.ru.blk⟩,⟨(ho.block _ h.r3.lt (fun hf=>by have:=hF _ hf;omega)).trans h.r3.blk⟩,h.low.trans (ho.below (fun k hk=>by have:=hF k hk;omega) h.low.size)⟩
theorem rdu_start (w:World):RdU w ((w.alloc (.cells #[.slice none 0 0,.int .i64 0,.int .i64 0,.slice none 0 0,.int .u32 0,.int .u32 0,.int .u32 0,.int .u32 0,.int .u32 0,.slice none 0 0,.slice none 0 0] 31)).alloc (.cells #[.int .i64 0,.int .i64 0,.slice none 0 0] 34)) ∧
  ((w.alloc (.cells #[.slice none 0 0,.int .i64 0,.int .i64 0,.slice none 0 0,.int .u32 0,.int .u32 0,.int .u32 0,.int .u32 0,.int .u32 0,.slice none 0 0,.slice none 0 0] 31)).alloc (.cells #[.int .i64 0,.int .i64 0,.slice none 0 0] 34)).heap.size=w.heap.size+2:=by
 have h1:=BoxU.new w 31 zeroA (.slice none 0 0) (.slice none 0 0) (.slice none 0 0) (.slice none 0 0)
 have b1:Below w.heap.size w (w.alloc (.cells #[.slice none 0 0,.int .i64 0,.int .i64 0,.slice none 0 0,.int .u32 0,.int .u32 0,.int .u32 0,.int .u32 0,.int .u32 0,.slice none 0 0,.slice none 0 0] 31)):=(Below.refl _ w).alloc (Nat.le_refl _) _
 have e1:(w.alloc (.cells #[.slice none 0 0,.int .i64 0,.int .i64 0,.slice none 0 0,.int .u32 0,.int .u32 0,.int .u32 0,.int .u32 0,.int .u32 0,.slice none 0 0,.slice none 0 0] 31)).heap.size=w.heap.size+1:=by simp
 obtain ⟨W1,hW1⟩:∃ W1,W1=w.alloc (.cells #[.slice none 0 0,.int .i64 0,.int .i64 0,.slice none 0 0,.int .u32 0,.int .u32 0,.int .u32 0,.int .u32 0,.int .u32 0,.slice none 0 0,.slice none 0 0] 31):=⟨_,rfl⟩
 have h1':BoxU W1 w.heap.size 31 zeroA (.slice none 0 0) (.slice none 0 0) (.slice none 0 0) (.slice none 0 0):=by rw [hW1];exact h1
 rw [← hW1] at b1 e1 ⊢
 have h2:=Box3.new W1 34 (.int .i64 0) (.int .i64 0) (.slice none 0 0)
 have b2:Below W1.heap.size W1 (W1.alloc (.cells #[.int .i64 0,.int .i64 0,.slice none 0 0] 34)):=(Below.refl _ _).alloc (Nat.le_refl _) _
 rw [e1] at h2
 exact ⟨⟨h1'.keep b2,h2,b1.trans (b2.mono b1.size)⟩,by simp [e1]⟩
structure UdSt (w:World) (n br:Nat) (x:Rd) (W:World):Prop where
 ru:RdU w W
 rd:R W (w.heap.size+2) n (.pointer (some ⟨br,0,none⟩)) x.l x.b (fun k=>k=br)
section
variable {w W W2:World} {n br:Nat} {x y:Rd}
theorem UdSt.ge (h:UdSt w n br x W):w.heap.size+2≤br∧br<n:=h.rd.low br rfl
theorem UdSt.le (h:UdSt w n br x W):n≤W.heap.size:=by
 rcases h.rd with ⟨h1,-⟩ | ⟨b,s,-,-,-,h4,-⟩
 ·cases h1
 ·exact h4
theorem UdSt.below (h:UdSt w n br x W) (hb:Below W.heap.size W W2):UdSt w n br x W2:=⟨h.ru.below hb,h.rd.below hb⟩
theorem UdSt.read (h:UdSt w n br x W) (hr:R W2 (w.heap.size+2) n (.pointer (some ⟨br,0,none⟩)) y.l y.b (fun k=>k=br)) (ho:Only (fun k=>k=br) W W2):UdSt w n br y W2 :=
 ⟨h.ru.on ho (fun k hk=>by have:=h.ge.1;omega),hr⟩
theorem UdSt.far {F:Nat→Prop} (h:UdSt w n br x W) (ho:Only F W W2) (hF:∀ k,F k→n≤k):UdSt w n br x W2 :=
 ⟨h.ru.on ho (fun k hk=>by have:=h.ge;have:=hF k hk;omega),h.rd.far ho hF⟩
end
theorem updF_of {n:Nat} {W:World} {L H:List Pf} {Ag Ah:Option Addr} {cg ch:Nat} {a:At} {vp vc:Value} (hg:W.ownsRow n 67 2 (.slice Ag L.length cg) L.length (pcells L)) (hok:Oks L) (ha:AtF n W (aV a vp vc) a) (hh:W.ownsRow n 67 2 (.slice Ah H.length ch) H.length (pcells H)) (hok2:Oks H) :
  UpdF n W (uV a (.slice Ag L.length cg) vp vc (.slice Ah H.length ch)) ⟨L,a,H⟩:=by
 obtain ⟨h1,vp',vc',h2,h3,h4,h5⟩:=ha
 simp only [aV,acells,Value.agg.injEq,List.toArray_eq_iff,List.cons.injEq,and_true,true_and] at h2
 obtain ⟨rfl,rfl⟩:=h2
 exact ⟨Ag,cg,vp,vc,Ah,ch,rfl,hg,hok,⟨h1,h3,h4,h5⟩,hh,hok2⟩
structure UpSt (w:World) (n br:Nat) (x:Rd) (L:List Pf) (A:Option Addr) (c:Nat) (a:At) (q0 q1:Int) (vp vc vd:Value) (X W:World):Prop where
 ud:UdSt w n br x W
 own:X.ownsRow n 67 2 (.slice A L.length c) L.length (pcells L)
 at_:AtF n X (aV a vp vc) a
 hn:n≤X.heap.size
 on:Only (fun k=>k=br) X W
 b9:Box9 W X.heap.size 29 (.int .i64 a.has) (.int .i64 a.origin) vp (.int .u32 a.hop) (.int .u32 a.med) (.int .u32 a.pref) (.int .u32 a.aas) (.int .u32 a.aid) vc
 b3:Box3 W (X.heap.size+1) 34 (.int .i64 q0) (.int .i64 q1) vd
section
variable {w X W W2:World} {n br:Nat} {x y:Rd} {L:List Pf} {A:Option Addr} {c:Nat} {a:At} {q0 q1 q2 q3:Int} {vp vc vd vd2:Value}
theorem UpSt.below (h:UpSt w n br x L A c a q0 q1 vp vc vd X W) (hb:Below W.heap.size W W2):UpSt w n br x L A c a q0 q1 vp vc vd X W2 :=
 ⟨h.ud.below hb,h.own,h.at_,h.hn,h.on.trans (Only.of hb),h.b9.keep hb,h.b3.keep hb⟩
theorem UpSt.read (h:UpSt w n br x L A c a q0 q1 vp vc vd X W) (hr:R W2 (w.heap.size+2) n (.pointer (some ⟨br,0,none⟩)) y.l y.b (fun k=>k=br)) (ho:Only (fun k=>k=br) W W2):UpSt w n br y L A c a q0 q1 vp vc vd X W2:=by
 have hg:=h.ud.ge.2
 have hB:=h.hn
 exact ⟨h.ud.read hr ho,h.own,h.at_,h.hn,h.on.trans ho,⟨(ho.block X.heap.size h.b9.lt (by omega)).trans h.b9.blk⟩,⟨(ho.block (X.heap.size+1) h.b3.lt (by omega)).trans h.b3.blk⟩⟩
theorem UpSt.note (h:UpSt w n br x L A c a q0 q1 vp vc vd X W) (q2 q3:Int) (vd2:Value):UpSt w n br x L A c a q2 q3 vp vc vd2 X (W.setRow (X.heap.size+1) #[.int .i64 q2,.int .i64 q3,vd2]):=by
 have ho:=only_setRow W (X.heap.size+1) #[.int .i64 q2,.int .i64 q3,vd2]
 have hB:=h.hn
 exact ⟨h.ud.far ho (fun k hk=>by omega),h.own,h.at_,h.hn,only_new h.on ho (fun k hk=>by omega),⟨(setRow_other _ _ _ _ (by omega)).trans h.b9.blk⟩,⟨setRow_heap _ _ _ _ _ _ h.b3.blk⟩⟩
theorem UpSt.gone (h:UpSt w n br x L A c a q0 q1 vp vc vd X W):W.ownsRow n 67 2 (.slice A L.length c) L.length (pcells L) :=
 own2_on h.own h.on (fun k hk=>by have:=h.ud.ge.2;omega)
theorem UpSt.attrs (h:UpSt w n br x L A c a q0 q1 vp vc vd X W):AtF n W (aV a vp vc) a:=atF_on h.at_ h.on (fun k hk=>by have:=h.ud.ge.2;omega)
theorem up_start (q0 q1:Int) (vd:Value) (h1:UdSt w n br x X) (h2:X.ownsRow n 67 2 (.slice A L.length c) L.length (pcells L)) (h3:AtF n X (aV a vp vc) a) :
  UpSt w n br x L A c a q0 q1 vp vc vd X (((new16 X).setRow X.heap.size #[.int .i64 a.has,.int .i64 a.origin,vp,.int .u32 a.hop,.int .u32 a.med,.int .u32 a.pref,.int .u32 a.aas,.int .u32 a.aid,vc]).setRow (X.heap.size+1) #[.int .i64 q0,.int .i64 q1,vd]) ∧
  Below X.heap.size X (((new16 X).setRow X.heap.size #[.int .i64 a.has,.int .i64 a.origin,vp,.int .u32 a.hop,.int .u32 a.med,.int .u32 a.pref,.int .u32 a.aas,.int .u32 a.aid,vc]).setRow (X.heap.size+1) #[.int .i64 q0,.int .i64 q1,vd]):=by
 have hb:Below X.heap.size X (((new16 X).setRow X.heap.size #[.int .i64 a.has,.int .i64 a.origin,vp,.int .u32 a.hop,.int .u32 a.med,.int .u32 a.pref,.int .u32 a.aas,.int .u32 a.aid,vc]).setRow (X.heap.size+1) #[.int .i64 q0,.int .i64 q1,vd]) :=
  below_setRow (below_setRow (new16_low X) (Nat.le_refl _) _) (by omega) _
 exact ⟨⟨h1.below hb,h2,h3,h1.le,Only.of hb,⟨(setRow_other _ _ _ _ (by omega)).trans (setRow_heap _ _ _ _ _ _ (new16_9 X))⟩,⟨setRow_heap _ _ _ _ _ _ (new16_3 X _)⟩⟩,hb⟩
end
end Upd
namespace Upd
open Go.RowKit Mem Segm Oct Att Seg PR
theorem note_apart {W W2:World} {v:Value} {n:No} {B:Nat} (h:Note W v n) (hB:∀ i k,W.cell? ⟨B,i,none⟩≠some (.int .u8 k)) (hk:∀ k,k≠B→W2.heap[k]?=W.heap[k]?) (hs:W.heap.size≤W2.heap.size):Note W2 v n:=by
 obtain ⟨h1,h2,vd,h3,h4⟩:=h
 exact ⟨h1,h2,vd,h3,u8_apart h4 hB hk hs⟩
theorem UpSt.pre {w X W:World} {n br:Nat} {x:Rd} {L:List Pf} {A:Option Addr} {c:Nat} {a:At} {q0 q1:Int} {vp vc vd:Value} (h:UpSt w n br x L A c a q0 q1 vp vc vd X W) (cs:Array Value) :
  ((W.drew.setRow w.heap.size cs).cell? ⟨X.heap.size+1,0,none⟩=some (.int .i64 q0)∧(W.drew.setRow w.heap.size cs).cell? ⟨X.heap.size+1,1,none⟩=some (.int .i64 q1)∧(W.drew.setRow w.heap.size cs).cell? ⟨X.heap.size+1,2,none⟩=some vd) ∧
  Hid (W.drew.heap[w.heap.size]?=some (.cells #[.slice none 0 0,.int .i64 0,.int .i64 0,.slice none 0 0,.int .u32 0,.int .u32 0,.int .u32 0,.int .u32 0,.int .u32 0,.slice none 0 0,.slice none 0 0] 31 (0,0))) ∧
  Hid ((W.drew.setRow w.heap.size cs).heap[w.heap.size+1]?=some (.cells #[.int .i64 0,.int .i64 0,.slice none 0 0] 34 (0,0))):=by
 obtain ⟨q0,q1,q2⟩:=h.b3.cells
 have hw:X.heap.size+1≠w.heap.size:=by have:=h.hn;have:=h.ud.ge;omega
 exact ⟨⟨(cell_setRow_other W.drew w.heap.size cs ⟨X.heap.size+1,0,none⟩ hw).trans q0,(cell_setRow_other W.drew w.heap.size cs ⟨X.heap.size+1,1,none⟩ hw).trans q1,(cell_setRow_other W.drew w.heap.size cs ⟨X.heap.size+1,2,none⟩ hw).trans q2⟩,h.ud.ru.ru.blk,(setRow_other W.drew w.heap.size (w.heap.size+1) cs (by omega)).trans h.ud.ru.r3.blk⟩
theorem udec_any (v:Value) (b:List Nat) (w:World) (hv:U8s w v b) (hl:b.length≤5000) (hSh:Shp w):Calls Tryz.prog 47 #[v] w (DecU b w):=by
 obtain ⟨D1,D2⟩:=rdu_start w
 have HSb:=hid hv.2
 have CN:=hid (new_any v b _ (hv.keep D1.low) (by omega))
 have D0:=hid (And.intro D1 D2)
 have CF:=hid ufault_any
 obtain ⟨x0,h0⟩:∃ x,x=Rd.mk b false:=⟨_,rfl⟩
 obtain ⟨n1,hn1⟩:∃ n,n=x0.num 2:=⟨_,rfl⟩
 obtain ⟨x1,h1⟩:∃ x,x=x0.go 2:=⟨_,rfl⟩
 obtain ⟨G,hG⟩:∃ g,g=got x1.l x1.b (n1:Nat):=⟨_,rfl⟩
 obtain ⟨x2,h2⟩:∃ x,x=x1.go (n1:Nat):=⟨_,rfl⟩
 obtain ⟨n2,hn2⟩:∃ n,n=x2.num 2:=⟨_,rfl⟩
 obtain ⟨x3,h3⟩:∃ x,x=x2.go 2:=⟨_,rfl⟩
 obtain ⟨Q,hQ⟩:∃ g,g=got x3.l x3.b (n2:Nat):=⟨_,rfl⟩
 obtain ⟨x4,h4⟩:∃ x,x=x3.go (n2:Nat):=⟨_,rfl⟩
 have HS0:=hid (show Small x0.l from by rw [h0];exact HSb.out)
 have HS2:=hid (show Small x2.l from by rw [h2];exact Rd.small (by rw [h1];exact Rd.small HS0.out _) _)
 have hn1s:n1<65536:=by rw [hn1];exact num_lt HS0.out 2
 have hn2s:n2<65536:=by rw [hn2];exact num_lt HS2.out 2
 have l1:x1.l.length≤5000:=by rw [h1];exact Nat.le_trans (rest_len _ _ _) (by rw [h0];exact hl)
 have l2:x2.l.length≤5000:=by rw [h2];exact Nat.le_trans (rest_len _ _ _) l1
 have l3:x3.l.length≤5000:=by rw [h3];exact Nat.le_trans (rest_len _ _ _) l2
 have hx4l:x4.l.length≤5000:=by rw [h4];exact Nat.le_trans (rest_len _ _ _) l3
 have hGl:G.length≤100000:=by rw [hG];exact Nat.le_trans (got_len2 _ _ _) (Nat.le_trans l1 (by decide))
 have hQl:Q.length≤100000:=by rw [hQ];exact Nat.le_trans (got_len2 _ _ _) (Nat.le_trans l3 (by decide))
 have RDU:=hid (rd_upd b x1 x2 x3 x4 n1 n2 G Q (by rw [h1,h0]) (by rw [hn1,h0]) h2 hG h3 hn2 h4 hQ)
 have C1:=hid (fun n br W (h:R W (w.heap.size+2) n (.pointer (some ⟨br,0,none⟩)) x0.l x0.b (fun k=>k=br))=>show Calls Tryz.prog 83 #[.pointer (some ⟨br,0,none⟩)] W (fun e w'=>e=.returned (.int .i64 n1)∧R w' (w.heap.size+2) n (.pointer (some ⟨br,0,none⟩)) x1.l x1.b (fun k=>k=br)∧Only (fun k=>k=br) W w') from by
  rw [hn1,h1]
  exact u16_any _ _ n x0.l x0.b _ W HS0.out h)
 have C2:=hid (fun n br W (h:R W (w.heap.size+2) n (.pointer (some ⟨br,0,none⟩)) x1.l x1.b (fun k=>k=br))=>show Calls Tryz.prog 90 #[.pointer (some ⟨br,0,none⟩),.int .i64 n1] W (fun e w'=>∃ A c,e=.returned (.slice A G.length c)∧U8s w' (.slice A G.length c) G∧R w' (w.heap.size+2) n (.pointer (some ⟨br,0,none⟩)) x2.l x2.b (fun k=>k=br)∧Only (fun k=>k=br) W w') from by
  rw [hG,h2]
  exact take_any _ _ n x1.l x1.b _ (n1:Int) (by simp [Lit.wf,IntKind.min,IntKind.max,IntKind.signed,IntKind.bits];omega) W h)
 have C3:=hid (fun n br W (h:R W (w.heap.size+2) n (.pointer (some ⟨br,0,none⟩)) x2.l x2.b (fun k=>k=br))=>show Calls Tryz.prog 83 #[.pointer (some ⟨br,0,none⟩)] W (fun e w'=>e=.returned (.int .i64 n2)∧R w' (w.heap.size+2) n (.pointer (some ⟨br,0,none⟩)) x3.l x3.b (fun k=>k=br)∧Only (fun k=>k=br) W w') from by
  rw [hn2,h3]
  exact u16_any _ _ n x2.l x2.b _ W HS2.out h)
 have C4:=hid (fun n br W (h:R W (w.heap.size+2) n (.pointer (some ⟨br,0,none⟩)) x3.l x3.b (fun k=>k=br))=>show Calls Tryz.prog 90 #[.pointer (some ⟨br,0,none⟩),.int .i64 n2] W (fun e w'=>∃ A c,e=.returned (.slice A Q.length c)∧U8s w' (.slice A Q.length c) Q∧R w' (w.heap.size+2) n (.pointer (some ⟨br,0,none⟩)) x4.l x4.b (fun k=>k=br)∧Only (fun k=>k=br) W w') from by
  rw [hQ,h4]
  exact take_any _ _ n x3.l x3.b _ (n2:Int) (by simp [Lit.wf,IntKind.min,IntKind.max,IntKind.signed,IntKind.bits];omega) W h)
 have CD:=hid (fun vv W (h:U8s W vv G)=>(decode_own vv G W h hGl).mono fun _ _ h=>decO_of h)
 have CA:=hid (fun vv W (h:U8s W vv Q) (hb:Below w.heap.size w W)=>(decode_g vv Q W h hQl (hSh.keep hb)).mono fun _ _ h=>dec16_of h)
 have CB:=hid (fun n br W (h:R W (w.heap.size+2) n (.pointer (some ⟨br,0,none⟩)) x4.l x4.b (fun k=>k=br))=>bad_any _ _ n x4.l x4.b _ W h)
 have HX0:=hid h0
 clear D1 D2 hv h0 hn1 h1 hG h2 hn2 h3 hQ h4 HSb HS0 HS2 hn1s hn2s l1 l2 l3 hGl hQl hl hSh
 go_enter Tryz.func47,Tryz.ntmps47
 go_upto_region 4 with (first
  | (have h:=D0.out;go_at_call 81;refine CN.out.mono ?_;rintro e z0 ⟨br,rfl,hR,hb⟩;rw [h.2] at hR;have T0:=hid (UdSt.mk (x:=x0) (h.1.below hb) (by rw [HX0.out];exact hR));clear hR hb h D0)
  | (have h:=T0.out;go_at_call 83;refine (C1.out _ _ _ h.rd).mono ?_;rintro e z1 ⟨rfl,hR,ho⟩;have T1:=hid (h.read (y:=x1) hR ho);clear hR ho h T0)
  | (have h:=T1.out;go_at_call 90;refine (C2.out _ _ _ h.rd).mono ?_;rintro e z2 ⟨A2,c2,rfl,hU,hR,ho⟩;have T2:=hid (h.read (y:=x2) hR ho);have U2:=hid hU;clear hU hR ho h T1)
  | (have h:=T2.out;go_at_call 89;refine (CD.out _ _ U2.out).mono ?_;rintro e z3 ⟨Ag,mg,cg,er,rfl,hGO,hb⟩;have GO3:=hid (hGO.lower h.le);have T3:=hid (h.below hb);clear hGO hb h T2 U2)
  | (have h:=T3.out;go_at_call 83;refine (C3.out _ _ _ h.rd).mono ?_;rintro e z4 ⟨rfl,hR,ho⟩;have T4:=hid (h.read (y:=x3) hR ho);have GO4:=hid (GO3.out.on ho (fun k hk=>by have:=h.ge.2;omega));clear hR ho h T3 GO3)
  | (have h:=T4.out;go_at_call 90;refine (C4.out _ _ _ h.rd).mono ?_;rintro e z5 ⟨A5,c5,rfl,hU,hR,ho⟩;have T5:=hid (h.read (y:=x4) hR ho);have U5:=hid hU;have GO5:=hid (GO4.out.on ho (fun k hk=>by have:=h.ge.2;omega));clear hU hR ho h T4 GO4))
 clear C1 C2 C3 C4 HX0 CN
 rcases GO5.out with ⟨hd,rfl⟩ | ⟨L,Ag2,cg2,hd,rfl,hvg,hown,hok⟩
 focus
  have HD:=hid (show decU b=.inl ⟨3,(1:Nat),[]⟩ from by
   cases hb4:x4.b with
   | true=>exact RDU.out.1 hb4
   | false=>exact (RDU.out.2 hb4).1 hd)
  have RU:=hid T5.out.ru
  have FZ:=hid (fun W (h:RdU w W)=>h.finZ (.int .i64 3) (.int .i64 1) (.slice none 0 0))
  clear hd GO5 U5 CA CB CD
 rotate_left
 injection hvg with hv1 hv2 hv3
 subst hv1 hv2 hv3
 have OW:=hid hown
 have HOK:=hid hok
 clear GO5 hown hok CD
 rcases hb4:x4.b with _ | _
 rotate_left
 focus
  have HD:=hid (show decU b=.inl ⟨3,(1:Nat),[]⟩ from RDU.out.1 hb4)
  have CBx:=hid (fun n br W (h:R W (w.heap.size+2) n (.pointer (some ⟨br,0,none⟩)) x4.l x4.b (fun k=>k=br))=>show Calls Tryz.prog 85 #[.pointer (some ⟨br,0,none⟩)] W (Tells (.bool true) W) from by
   have k2:=CB.out _ _ _ h
   rw [hb4] at k2
   exact k2)
  have RU:=hid T5.out.ru
  have FZ:=hid (fun W (h:RdU w W)=>h.finZ (.int .i64 3) (.int .i64 1) (.slice none 0 0))
  clear hd hb4 CA CB
 rotate_left 2
 have HD2:=hid (show decU b=decU2 L (decodeA Q) x4.l from (RDU.out.2 hb4).2 L hd)
 have CBx:=hid (fun n br W (h:R W (w.heap.size+2) n (.pointer (some ⟨br,0,none⟩)) x4.l x4.b (fun k=>k=br))=>show Calls Tryz.prog 85 #[.pointer (some ⟨br,0,none⟩)] W (Tells (.bool false) W) from by
  have k2:=CB.out _ _ _ h
  rw [hb4] at k2
  exact k2)
 clear CB
 have HB4:=hid hb4
 clear hd RDU hb4
 focus go_upto_region 6 with ((have h:=T5.out;go_at_call 85;refine (CBx.out _ _ _ h.rd).mono ?_;rintro e z6 ⟨rfl,hb⟩;have T6:=hid (h.below hb);have U6:=hid (U5.out.keep hb);have OW6:=hid (own_keep OW.out hb);clear hb h T5 U5 OW))
 focus go_cut [8,9] (fun s8 s9 wx=>∃ (X:World) (a:At) (m:No) (Ap:Option Addr) (np cp:Nat) (Ac:Option Addr) (nc c3:Nat) (Ad:Option Addr) (nd cd:Nat),s8=.pointer (some ⟨X.heap.size,0,none⟩)∧s9=.pointer (some ⟨X.heap.size+1,0,none⟩)∧Hid (a=(outA (decodeA Q)).1∧m=(outA (decodeA Q)).2)∧Hid (UpSt w z0.heap.size br x4 L Ag cg a m.code m.sub (.slice Ap np cp) (.slice Ac nc c3) (.slice Ad nd cd) X wx)∧Hid (Note wx (.agg #[.int .i64 m.code,.int .i64 m.sub,.slice Ad nd cd]) m))
 case first =>
  go_wp2_with (first
   | (have h:=T6.out;go_at_call 92;refine (CA.out _ _ U6.out h.ru.low).mono ?_;rintro e X ⟨a,m,Ap,np,cp,Ac,nc,c3,Ad,nd,cd,ha,hm,rfl,h1,h2,hb⟩;have SS:=up_start m.code m.sub (.slice Ad nd cd) (h.below hb) (own_keep OW6.out hb) (atF_lower h1 (h.le));have S:=hid SS.1;have NO:=hid (h2.keep SS.2);have HE:=hid (And.intro ha hm);have K9:=hid (new16_9 X);have K3:=hid (new16_3 X #[.int .i64 a.has,.int .i64 a.origin,.slice Ap np cp,.int .u32 a.hop,.int .u32 a.med,.int .u32 a.pref,.int .u32 a.aas,.int .u32 a.aid,.slice Ac nc c3]);unfold new16 at S K9 K3 NO;unfold aV;clear ha hm h1 h2 hb h SS T6 U6 OW6)
   | (have h:=K9.out;refine wpList_store_row rfl 29 (.tmp 8) (.tmp 36) rfl X.heap.size _ rfl rfl _ _ h (by kernel_rfl) rfl (by simp [Value.oneCell']) ?_;clear h;clear K9)
   | (have h:=K3.out;refine wpList_store_row rfl 34 (.tmp 9) (.tmp 37) rfl (X.heap.size+1) _ rfl rfl _ _ h (by kernel_rfl) rfl (by simp [Value.oneCell']) ?_;clear h;clear K3))
  go_meet
  exact ⟨_,_,_,_,_,_,_,_,_,_,_,_,rfl,rfl,HE,S,NO⟩
 obtain ⟨X,a,m,Ap,np,cp,Ac,nc,c3,Ad,nd,cd,rfl,rfl,HE,S,NO⟩:=hcut
 clear CBx CA
 rcases hr:decodeA Q with m2 | a2
 ·obtain ⟨ha,hn⟩:=HE.out
  rw [hr] at ha hn
  replace hn:m=m2:=hn
  subst hn
  have hcode:m.code=3:=decA_code _ _ _ _ _ hr
  have HD:=hid (show decU b=.inl m from by rw [HD2.out,hr];rfl)
  have y1:((m.code:Int) != 0)=true:=by rw [hcode];rfl
  clear ha hr HE hcode HD2
  obtain ⟨q0,q1,q2⟩:=S.out.b3.cells
  obtain ⟨⟨p0,p1,p2⟩,KU,KN⟩:=S.out.pre #[.slice none 0 0,.int .i64 0,.int .i64 0,.slice none 0 0,.int .u32 0,.int .u32 0,.int .u32 0,.int .u32 0,.int .u32 0,.slice none 0 0,.slice none 0 0]
  go_upto_region 8 with fail
  go_cut [] (fun wx=>wx=endZ w wc.drew (.int .i64 m.code) (.int .i64 m.sub) (.slice Ad nd cd))
  case first =>
   refine wp_region_any (by kernel_rfl) ?_
   change wpAny _ _ _ _ _ _ _ (World.drew _)
   refine wpAny_take (i:=0) rfl (by kernel_rfl) (by kernel_rfl) (by kernel_rfl) (fun _ _ _ h=>h) (Or.inl ⟨by rfl,by intro w;go_simp;try with_reducible rfl⟩) ?_
   refine wpAny_ready (rs:=[1,2]) (by kernel_rfl) (by simp) ?_
   refine AllReady.cons rfl (fun K hK=>?_) (AllReady.cons rfl (fun K hK=>?_) AllReady.nil)
   focus
    go_simp
    refine hK _ _ ?_
    clear hK K
    refine wpAny_ready (rs:=[2]) (by kernel_rfl) (by simp) ?_
    refine AllReady.cons rfl (fun K hK=>?_) AllReady.nil
    rw [if_pos (by rfl)]
    refine wp_store_row 31 (.tmp 2) (.tmp 41) rfl w.heap.size _ rfl rfl _ _ KU.out (by kernel_rfl) rfl (by simp [Value.oneCell']) ?_
    refine hK _ _ ?_
    clear hK K
   rotate_left
   focus
    rw [if_pos (by rfl)]
    refine wp_store_row 31 (.tmp 2) (.tmp 41) rfl w.heap.size _ rfl rfl _ _ KU.out (by kernel_rfl) rfl (by simp [Value.oneCell']) ?_
    refine hK _ _ ?_
    clear hK K
    refine wpAny_ready (rs:=[1]) (by kernel_rfl) (by simp) ?_
    refine AllReady.cons rfl (fun K hK=>?_) AllReady.nil
    go_simp
    refine hK _ _ ?_
    clear hK K
   all_goals
    refine wpAny_ready (rs:=[3]) (by kernel_rfl) (by simp) ?_
    refine AllReady.cons rfl (fun K hK=>?_) AllReady.nil
    rw [if_pos (by rfl)]
    refine wp_store_row 34 (.tmp 3) (.tmp 42) rfl (w.heap.size+1) _ rfl rfl _ _ KN.out (by kernel_rfl) rfl (by simp [Value.oneCell']) ?_
    refine hK _ _ ?_
    clear hK K
    refine wpAny_done (by kernel_rfl) ?_ _
    go_wp2_with fail
    go_meet
    rfl
  subst hcut
  have RD:=hid (S.out.ud.ru.below (Below.refl _ wc).drew)
  have NO2:=hid (NO.out.keep (Below.refl _ wc).drew)
  obtain ⟨⟨r0,r1,r2,r3,r4,r5,r6,r7,r8,r9,r10⟩,t0,t1,t2⟩:=RD.out.finZ (.int .i64 m.code) (.int .i64 m.sub) (.slice Ad nd cd)
  clear KU KN p0 p1 p2 q0 q1 q2 S y1 NO
  have HEV:=hid (RD.out.badN HD.out NO2.out)
  generalize endZ w wc.drew (.int .i64 m.code) (.int .i64 m.sub) (.slice Ad nd cd)=WE at r0 r1 r2 r3 r4 r5 r6 r7 r8 r9 r10 t0 t1 t2 HEV ⊢
  go_wp2_with fail
  (try simp only [Exit.inBlock,Exit.then])
  refine bodyPost_ret (by simp [results,Tryz.results47,go_sem,r0,r1,r2,r3,r4,r5,r6,r7,r8,r9,r10,t0,t1,t2]) rfl HEV.out
 obtain ⟨ha,hn⟩:=HE.out
 rw [hr] at ha hn
 replace hn:m=⟨0,0,[]⟩:=hn
 replace ha:a=a2:=ha
 subst ha hn
 replace S:=hid (show UpSt w z0.heap.size br x4 L Ag cg a 0 0 (.slice Ap np cp) (.slice Ac nc c3) (.slice Ad nd cd) X wc from S.out)
 replace NO:=hid (show Note wc (.agg #[.int .i64 0,.int .i64 0,.slice Ad nd cd]) ⟨0,0,[]⟩ from NO.out)
 have HD3:=hid (show decU b=decU3 L a x4.l from by rw [HD2.out,hr];rfl)
 clear hr HE HD2
 obtain ⟨q0,q1,q2⟩:=S.out.b3.cells
 have CL:=hid (fun n br W (h:R W (w.heap.size+2) n (.pointer (some ⟨br,0,none⟩)) x4.l x4.b (fun k=>k=br))=>left_any _ _ n x4.l x4.b _ W h)
 have left:Hid True:=hid True.intro
 focus go_upto_region 9 with fail
 have T9:=hid True.intro
 by_cases k2:x4.l.length=0
 ·have y2:((x4.l.length:Int) == 0)=true:=by rw [k2];rfl
  have HD:=hid (show decU b=.inr ⟨L,zeroA,[]⟩ from by rw [HD3.out];exact if_pos (List.eq_nil_of_length_eq_zero k2))
  clear k2 HD3
  go_upto_region 10 with (have tok:=T9.out;go_at_call 87;refine (CL.out _ _ _ S.out.ud.rd).mono ?_;rintro e zl ⟨rfl,hb⟩;replace S:=hid (S.out.below hb);replace NO:=hid (NO.out.keep hb);clear hb tok T9 q0 q1 q2;obtain ⟨q0,q1,q2⟩:=S.out.b3.cells)
  obtain ⟨⟨p0,p1,p2⟩,KU,KN⟩:=S.out.pre #[.slice Ag L.length cg,.int .i64 0,.int .i64 0,.slice none 0 0,.int .u32 0,.int .u32 0,.int .u32 0,.int .u32 0,.int .u32 0,.slice none 0 0,.slice none 0 0]
  go_cut [] (fun wx=>wx=endU w zl.drew zeroA (.slice Ag L.length cg) (.slice none 0 0) (.slice none 0 0) (.slice none 0 0) (.int .i64 0) (.int .i64 0) (.slice Ad nd cd))
  case first =>
   refine wp_region_any (by kernel_rfl) ?_
   change wpAny _ _ _ _ _ _ _ (World.drew _)
   refine wpAny_take (i:=0) rfl (by kernel_rfl) (by kernel_rfl) (by kernel_rfl) (fun _ _ _ h=>h) (Or.inl ⟨by rfl,by intro w;go_simp;try with_reducible rfl⟩) ?_
   refine wpAny_take (i:=1) rfl (by kernel_rfl) (by kernel_rfl) (by kernel_rfl) (fun _ _ _ h=>h) (Or.inl ⟨by rfl,by intro w;go_simp;try with_reducible rfl⟩) ?_
   refine wpAny_ready (rs:=[2,3]) (by kernel_rfl) (by simp) ?_
   refine AllReady.cons rfl (fun K hK=>?_) (AllReady.cons rfl (fun K hK=>?_) AllReady.nil)
   focus
    go_simp
    refine hK _ _ ?_
    clear hK K
    refine wpAny_ready (rs:=[3]) (by kernel_rfl) (by simp) ?_
    refine AllReady.cons rfl (fun K hK=>?_) AllReady.nil
    rw [if_pos (by rfl)]
    refine wp_store_row 31 (.tmp 2) (.tmp 47) rfl w.heap.size _ rfl rfl _ _ KU.out (by kernel_rfl) rfl (by simp [Value.oneCell']) ?_
    refine hK _ _ ?_
    clear hK K
   rotate_left
   focus
    rw [if_pos (by rfl)]
    refine wp_store_row 31 (.tmp 2) (.tmp 47) rfl w.heap.size _ rfl rfl _ _ KU.out (by kernel_rfl) rfl (by simp [Value.oneCell']) ?_
    refine hK _ _ ?_
    clear hK K
    refine wpAny_ready (rs:=[2]) (by kernel_rfl) (by simp) ?_
    refine AllReady.cons rfl (fun K hK=>?_) AllReady.nil
    go_simp
    refine hK _ _ ?_
    clear hK K
   all_goals
    refine wpAny_ready (rs:=[4]) (by kernel_rfl) (by simp) ?_
    refine AllReady.cons rfl (fun K hK=>?_) AllReady.nil
    rw [if_pos (by rfl)]
    refine wp_store_row 34 (.tmp 3) (.tmp 48) rfl (w.heap.size+1) _ rfl rfl _ _ KN.out (by kernel_rfl) rfl (by simp [Value.oneCell']) ?_
    refine hK _ _ ?_
    clear hK K
    refine wpAny_done (by kernel_rfl) ?_ _
    go_wp2_with fail
    go_meet
    rfl
  subst hcut
  have RD:=hid (S.out.ud.ru.below (Below.refl _ zl).drew)
  have NO2:=hid (NO.out.keep (Below.refl _ zl).drew)
  have hge:=S.out.ud.ge
  have HU:=hid (show UpdF z0.heap.size zl.drew (uV zeroA (.slice Ag L.length cg) (.slice none 0 0) (.slice none 0 0) (.slice none 0 0)) ⟨L,zeroA,[]⟩ from ⟨Ag,cg,_,_,none,0,rfl,own_keep S.out.gone (Below.refl _ zl).drew,HOK.out,⟨zeroA_ok,nil_segsF _ _ _,U32s.nil _,NewAt.nil _⟩,World.ownsRow_nil _ _ _ _,oks_nil⟩)
  obtain ⟨f0,f1,-⟩:=RD.out.fin zeroA (.slice Ag L.length cg) (.slice none 0 0) (.slice none 0 0) (.slice none 0 0) (.int .i64 0) (.int .i64 0) (.slice Ad nd cd)
  obtain ⟨r0,r1,r2,r3,r4,r5,r6,r7,r8,r9,r10⟩:=zcells f0
  obtain ⟨t0,t1,t2⟩:=f1.cells
  clear f0 f1 KU KN p0 p1 p2 q0 q1 q2 S y2 NO
  have HEV:=hid (show DecU b w (.returned (.tuple #[.agg #[.slice Ag L.length cg,.int .i64 0,.int .i64 0,.slice none 0 0,.int .u32 0,.int .u32 0,.int .u32 0,.int .u32 0,.int .u32 0,.slice none 0 0,.slice none 0 0],.agg #[.int .i64 0,.int .i64 0,.slice Ad nd cd]])) (endU w zl.drew zeroA (.slice Ag L.length cg) (.slice none 0 0) (.slice none 0 0) (.slice none 0 0) (.int .i64 0) (.int .i64 0) (.slice Ad nd cd)) from RD.out.okN (b:=b) (u:=⟨L,zeroA,[]⟩) (base:=z0.heap.size) (by omega) HU.out NO2.out HD.out)
  clear hge
  generalize endU w zl.drew zeroA (.slice Ag L.length cg) (.slice none 0 0) (.slice none 0 0) (.slice none 0 0) (.int .i64 0) (.int .i64 0) (.slice Ad nd cd)=WE at r0 r1 r2 r3 r4 r5 r6 r7 r8 r9 r10 t0 t1 t2 HEV ⊢
  go_wp2_with fail
  (try simp only [Exit.inBlock,Exit.then])
  refine bodyPost_ret (by simp [results,Tryz.results47,go_sem,r0,r1,r2,r3,r4,r5,r6,r7,r8,r9,r10,t0,t1,t2]) rfl HEV.out
 have y2:((x4.l.length:Int) == 0)=false:=by rw [beq_eq_false_iff_ne];omega
 obtain ⟨v0,v1,v2,v3,v4,v5,v6,v7,v8⟩:=S.out.b9.cells
 have CW:=hid (fun vv W (h:Attrs W vv a)=>well_any vv a W h)
 generalize hm:wellN a.has=m at CW
 have HM:=hid hm
 clear hm
 focus go_upto_region 11 with ((have tok:=T9.out;go_at_call 87;refine (CL.out _ _ _ S.out.ud.rd).mono ?_;rintro e zl ⟨rfl,hb⟩;replace S:=hid (S.out.below hb);replace NO:=hid (NO.out.keep hb);clear hb tok T9 q0 q1 q2 v0 v1 v2 v3 v4 v5 v6 v7 v8;obtain ⟨q0,q1,q2⟩:=S.out.b3.cells;obtain ⟨v0,v1,v2,v3,v4,v5,v6,v7,v8⟩:=S.out.b9.cells))
 focus go_cut [] (fun wx=>∃ (Ad:Option Addr) (nd cd:Nat),Hid (UpSt w z0.heap.size br x4 L Ag cg a m.code m.sub (.slice Ap np cp) (.slice Ac nc c3) (.slice Ad nd cd) X wx)∧Hid (Note wx (.agg #[.int .i64 m.code,.int .i64 m.sub,.slice Ad nd cd]) m))
 case first =>
  go_wp2_with (first
   | (have h:=S.out;go_at_call 68;refine (CW.out _ _ h.attrs.attrs).mono ?_;rintro e xw ⟨v2,rfl,hN,hb⟩;obtain ⟨vd2,rfl,hD⟩:=note_form hN;obtain ⟨Aw,cw,rfl,-,-⟩:=hD.form;have S9:=hid (h.below hb);have NW:=hid hN;clear hN hb hD h S)
   | (have h:=S9.out.b3.blk;refine wpList_store_row rfl 34 (.tmp 9) (.tmp 50) rfl (X.heap.size+1) _ rfl rfl _ _ h (by kernel_rfl) rfl (by simp [Value.oneCell']) ?_;clear h))
  go_meet
  exact ⟨_,_,_,hid (S9.out.note _ _ _),hid (note_apart NW.out (S9.out.b3.no8 (no8_i _) (no8_i _) (no8_s _ _ _)) (fun k hk=>setRow_other _ _ _ _ hk) (by simp))⟩
 clear q0 q1 q2 v0 v1 v2 v3 v4 v5 v6 v7 v8 S NO
 obtain ⟨Ad,nd,cd,S,NO⟩:=hcut
 rcases hw:wellB a.has with _ | _
 ·obtain ⟨kk,-,-,hkk⟩:=wellN_no hw
  have hcode:m.code=3:=by rw [← HM.out,hkk]
  have HD:=hid (show decU b=.inl m from by rw [← HM.out,HD3.out];unfold decU3;rw [if_neg (fun e=>k2 (by rw [e];rfl)),if_pos hw])
  have y1:((m.code:Int) != 0)=true:=by rw [hcode];rfl
  clear hw hkk hcode HD3 k2 HM
  obtain ⟨q0,q1,q2⟩:=S.out.b3.cells
  obtain ⟨⟨p0,p1,p2⟩,KU,KN⟩:=S.out.pre #[.slice none 0 0,.int .i64 0,.int .i64 0,.slice none 0 0,.int .u32 0,.int .u32 0,.int .u32 0,.int .u32 0,.int .u32 0,.slice none 0 0,.slice none 0 0]
  go_upto_region 13 with fail
  go_cut [] (fun wx=>wx=endZ w wc.drew (.int .i64 m.code) (.int .i64 m.sub) (.slice Ad nd cd))
  case first =>
   refine wp_region_any (by kernel_rfl) ?_
   change wpAny _ _ _ _ _ _ _ (World.drew _)
   refine wpAny_take (i:=0) rfl (by kernel_rfl) (by kernel_rfl) (by kernel_rfl) (fun _ _ _ h=>h) (Or.inl ⟨by rfl,by intro w;go_simp;try with_reducible rfl⟩) ?_
   refine wpAny_ready (rs:=[1,2]) (by kernel_rfl) (by simp) ?_
   refine AllReady.cons rfl (fun K hK=>?_) (AllReady.cons rfl (fun K hK=>?_) AllReady.nil)
   focus
    go_simp
    refine hK _ _ ?_
    clear hK K
    refine wpAny_ready (rs:=[2]) (by kernel_rfl) (by simp) ?_
    refine AllReady.cons rfl (fun K hK=>?_) AllReady.nil
    rw [if_pos (by rfl)]
    refine wp_store_row 31 (.tmp 2) (.tmp 54) rfl w.heap.size _ rfl rfl _ _ KU.out (by kernel_rfl) rfl (by simp [Value.oneCell']) ?_
    refine hK _ _ ?_
    clear hK K
   rotate_left
   focus
    rw [if_pos (by rfl)]
    refine wp_store_row 31 (.tmp 2) (.tmp 54) rfl w.heap.size _ rfl rfl _ _ KU.out (by kernel_rfl) rfl (by simp [Value.oneCell']) ?_
    refine hK _ _ ?_
    clear hK K
    refine wpAny_ready (rs:=[1]) (by kernel_rfl) (by simp) ?_
    refine AllReady.cons rfl (fun K hK=>?_) AllReady.nil
    go_simp
    refine hK _ _ ?_
    clear hK K
   all_goals
    refine wpAny_ready (rs:=[3]) (by kernel_rfl) (by simp) ?_
    refine AllReady.cons rfl (fun K hK=>?_) AllReady.nil
    rw [if_pos (by rfl)]
    refine wp_store_row 34 (.tmp 3) (.tmp 55) rfl (w.heap.size+1) _ rfl rfl _ _ KN.out (by kernel_rfl) rfl (by simp [Value.oneCell']) ?_
    refine hK _ _ ?_
    clear hK K
    refine wpAny_done (by kernel_rfl) ?_ _
    go_wp2_with fail
    go_meet
    rfl
  subst hcut
  have RD:=hid (S.out.ud.ru.below (Below.refl _ wc).drew)
  have NO2:=hid (NO.out.keep (Below.refl _ wc).drew)
  obtain ⟨⟨r0,r1,r2,r3,r4,r5,r6,r7,r8,r9,r10⟩,t0,t1,t2⟩:=RD.out.finZ (.int .i64 m.code) (.int .i64 m.sub) (.slice Ad nd cd)
  clear KU KN p0 p1 p2 q0 q1 q2 S y1 NO
  have HEV:=hid (RD.out.badN HD.out NO2.out)
  generalize endZ w wc.drew (.int .i64 m.code) (.int .i64 m.sub) (.slice Ad nd cd)=WE at r0 r1 r2 r3 r4 r5 r6 r7 r8 r9 r10 t0 t1 t2 HEV ⊢
  go_wp2_with fail
  (try simp only [Exit.inBlock,Exit.then])
  refine bodyPost_ret (by simp [results,Tryz.results47,go_sem,r0,r1,r2,r3,r4,r5,r6,r7,r8,r9,r10,t0,t1,t2]) rfl HEV.out
 obtain rfl:m=⟨0,0,[]⟩:=HM.out.symm.trans (wellN_yes hw)
 have HD4:=hid (show decU b=(match dec val x4.l with | none=>.inl ⟨3,10,[]⟩ | some h=>.inr ⟨L,a,h⟩) from by rw [HD3.out];unfold decU3;rw [if_neg (fun e=>k2 (by rw [e];rfl)),if_neg (by rw [hw];decide)];cases dec val x4.l <;> rfl)
 replace S:=hid (show UpSt w z0.heap.size br x4 L Ag cg a 0 0 (.slice Ap np cp) (.slice Ac nc c3) (.slice Ad nd cd) X wc from S.out)
 replace NO:=hid (show Note wc (.agg #[.int .i64 0,.int .i64 0,.slice Ad nd cd]) ⟨0,0,[]⟩ from NO.out)
 clear hw HD3 HM k2
 obtain ⟨q0,q1,q2⟩:=S.out.b3.cells
 have CR:=hid (fun n br W (h:R W (w.heap.size+2) n (.pointer (some ⟨br,0,none⟩)) x4.l x4.b (fun k=>k=br))=>show Calls Tryz.prog 93 #[.pointer (some ⟨br,0,none⟩)] W (fun e w'=>∃ (y:Rd) (A:Option Addr) (c:Nat),e=.returned (.slice A x4.l.length c)∧U8s w' (.slice A x4.l.length c) x4.l∧R w' (w.heap.size+2) n (.pointer (some ⟨br,0,none⟩)) y.l y.b (fun k=>k=br)∧Only (fun k=>k=br) W w') from (rest_any _ _ n x4.l x4.b _ W (by omega) h).mono fun e w' ⟨A,c,k1,k2,k3,k4⟩=>by
  have eg:got x4.l x4.b x4.l.length=x4.l:=by rw [HB4.out,(fit_go (Nat.le_refl _)).2,List.take_length]
  rw [eg] at k1 k2
  exact ⟨x4.go x4.l.length,A,c,k1,k2,k3,k4⟩)
 have CD2:=hid (fun vv W (h:U8s W vv x4.l)=>(decode_own vv x4.l W h (by omega)).mono fun _ _ h=>decO_of h)
 focus go_upto_region 15 with (first
  | (have h:=S.out;go_at_call 93;refine (CR.out _ _ _ h.ud.rd).mono ?_;rintro e zr ⟨y,A6,c6,rfl,hU,hR,ho⟩;have S11:=hid (h.read (y:=y) hR ho);have NO11:=hid (show Note zr (.agg #[.int .i64 0,.int .i64 0,.slice Ad nd cd]) ⟨0,0,[]⟩ from note_nil (n:=⟨0,0,[]⟩) NO.out rfl);have U11:=hid hU;clear hU hR ho h S NO)
  | (have h:=S11.out;go_at_call 89;refine (CD2.out _ _ U11.out).mono ?_;rintro e z9 ⟨Ah,mh,ch,er2,rfl,hGO,hb⟩;have GH:=hid (hGO.lower h.ud.le);have S12:=hid (h.below hb);have NO12:=hid (NO11.out.keep hb);clear hGO hb h S11 U11 NO11))
 rcases GH.out with ⟨hd,rfl⟩ | ⟨H,Ah2,ch2,hd,rfl,hvh,hown,hokh⟩
 focus
  have HD:=hid (show decU b=.inl ⟨3,(10:Nat),[]⟩ from by rw [HD4.out,hd];rfl)
  have RU:=hid S12.out.ud.ru
  have FZ:=hid (fun W (h:RdU w W)=>h.finZ (.int .i64 3) (.int .i64 10) (.slice none 0 0))
  clear hd GH NO12 q0 q1 q2
 rotate_left
 injection hvh with hv1 hv2 hv3
 subst hv1 hv2 hv3
 have HH:=hid (And.intro hown hokh)
 have HD:=hid (show decU b=.inr ⟨L,a,H⟩ from by rw [HD4.out,hd])
 have S:=hid S12.out
 have NO:=hid NO12.out
 clear hd GH hown hokh HD4 S12 NO12 q0 q1 q2
 obtain ⟨q0,q1,q2⟩:=S.out.b3.cells
 obtain ⟨v0,v1,v2,v3,v4,v5,v6,v7,v8⟩:=S.out.b9.cells
 focus go_upto_region 17 with fail
 obtain ⟨⟨p0,p1,p2⟩,KU,KN⟩:=S.out.pre #[.slice Ag L.length cg,.int .i64 a.has,.int .i64 a.origin,.slice Ap np cp,.int .u32 a.hop,.int .u32 a.med,.int .u32 a.pref,.int .u32 a.aas,.int .u32 a.aid,.slice Ac nc c3,.slice Ah H.length ch]
 focus go_cut [] (fun wx=>wx=endU w z9.drew a (.slice Ag L.length cg) (.slice Ap np cp) (.slice Ac nc c3) (.slice Ah H.length ch) (.int .i64 0) (.int .i64 0) (.slice Ad nd cd))
 case first =>
  refine wp_region_any (by kernel_rfl) ?_
  change wpAny _ _ _ _ _ _ _ (World.drew _)
  refine wpAny_take (i:=0) rfl (by kernel_rfl) (by kernel_rfl) (by kernel_rfl) (fun _ _ _ h=>h) (Or.inl ⟨by rfl,by intro w;go_simp;try with_reducible rfl⟩) ?_
  refine wpAny_take (i:=2) rfl (by kernel_rfl) (by kernel_rfl) (by kernel_rfl) (fun _ _ _ h=>h) (Or.inl ⟨by rfl,by intro w;go_simp;try with_reducible rfl⟩) ?_
  refine wpAny_ready (rs:=[1,4]) (by kernel_rfl) (by simp) ?_
  refine AllReady.cons rfl (fun K hK=>?_) (AllReady.cons rfl (fun K hK=>?_) AllReady.nil)
  focus
   go_simp
   refine hK _ _ ?_
   clear hK K
   refine wpAny_take (i:=3) rfl (by kernel_rfl) (by kernel_rfl) (by kernel_rfl) (fun _ _ _ h=>h) (Or.inl ⟨by rfl,by intro w;go_simp;try with_reducible rfl⟩) ?_
   refine wpAny_ready (rs:=[4,5]) (by kernel_rfl) (by simp) ?_
   refine AllReady.cons rfl (fun K hK=>?_) (AllReady.cons rfl (fun K hK=>?_) AllReady.nil)
   focus
    go_simp
    refine hK _ _ ?_
    clear hK K
    refine wpAny_ready (rs:=[5]) (by kernel_rfl) (by simp) ?_
    refine AllReady.cons rfl (fun K hK=>?_) AllReady.nil
    rw [if_pos (by rfl)]
    refine wp_store_row 31 (.tmp 2) (.tmp 69) rfl w.heap.size _ rfl rfl _ _ KU.out (by kernel_rfl) rfl (by simp [Value.oneCell']) ?_
    refine hK _ _ ?_
    clear hK K
   rotate_left
   focus
    rw [if_pos (by rfl)]
    refine wp_store_row 31 (.tmp 2) (.tmp 69) rfl w.heap.size _ rfl rfl _ _ KU.out (by kernel_rfl) rfl (by simp [Value.oneCell']) ?_
    refine hK _ _ ?_
    clear hK K
    refine wpAny_ready (rs:=[4]) (by kernel_rfl) (by simp) ?_
    refine AllReady.cons rfl (fun K hK=>?_) AllReady.nil
    go_simp
    refine hK _ _ ?_
    clear hK K
  rotate_left 2
  focus
   go_simp
   refine hK _ _ ?_
   clear hK K
   refine wpAny_ready (rs:=[1]) (by kernel_rfl) (by simp) ?_
   refine AllReady.cons rfl (fun K hK=>?_) AllReady.nil
   go_simp
   refine hK _ _ ?_
   clear hK K
   refine wpAny_take (i:=3) rfl (by kernel_rfl) (by kernel_rfl) (by kernel_rfl) (fun _ _ _ h=>h) (Or.inl ⟨by rfl,by intro w;go_simp;try with_reducible rfl⟩) ?_
   refine wpAny_ready (rs:=[5]) (by kernel_rfl) (by simp) ?_
   refine AllReady.cons rfl (fun K hK=>?_) AllReady.nil
   rw [if_pos (by rfl)]
   refine wp_store_row 31 (.tmp 2) (.tmp 69) rfl w.heap.size _ rfl rfl _ _ KU.out (by kernel_rfl) rfl (by simp [Value.oneCell']) ?_
   refine hK _ _ ?_
   clear hK K
  all_goals
   refine wpAny_ready (rs:=[6]) (by kernel_rfl) (by simp) ?_
   refine AllReady.cons rfl (fun K hK=>?_) AllReady.nil
   rw [if_pos (by rfl)]
   refine wp_store_row 34 (.tmp 3) (.tmp 70) rfl (w.heap.size+1) _ rfl rfl _ _ KN.out (by kernel_rfl) rfl (by simp [Value.oneCell']) ?_
   refine hK _ _ ?_
   clear hK K
   refine wpAny_done (by kernel_rfl) ?_ _
   go_wp2_with fail
   go_meet
   rfl
 subst hcut
 have RD:=hid (S.out.ud.ru.below (Below.refl _ z9).drew)
 have NO2:=hid (NO.out.keep (Below.refl _ z9).drew)
 have hge:=S.out.ud.ge
 have HU:=hid (show UpdF z0.heap.size z9.drew (uV a (.slice Ag L.length cg) (.slice Ap np cp) (.slice Ac nc c3) (.slice Ah H.length ch)) ⟨L,a,H⟩ from updF_of (own_keep S.out.gone (Below.refl _ z9).drew) HOK.out (atF_keep S.out.attrs (Below.refl _ z9).drew) (own_keep HH.out.1 (Below.refl _ z9).drew) HH.out.2)
 obtain ⟨f0,f1,-⟩:=RD.out.fin a (.slice Ag L.length cg) (.slice Ap np cp) (.slice Ac nc c3) (.slice Ah H.length ch) (.int .i64 0) (.int .i64 0) (.slice Ad nd cd)
 obtain ⟨r0,r1,r2,r3,r4,r5,r6,r7,r8,r9,r10⟩:=f0.cells
 obtain ⟨t0,t1,t2⟩:=f1.cells
 clear f0 f1 KU KN p0 p1 p2 q0 q1 q2 S NO
 have HEV:=hid (RD.out.okN (b:=b) (u:=⟨L,a,H⟩) (base:=z0.heap.size) (by omega) HU.out NO2.out HD.out)
 dsimp only at HEV
 clear hge
 generalize endU w z9.drew a (.slice Ag L.length cg) (.slice Ap np cp) (.slice Ac nc c3) (.slice Ah H.length ch) (.int .i64 0) (.int .i64 0) (.slice Ad nd cd)=WE at r0 r1 r2 r3 r4 r5 r6 r7 r8 r9 r10 t0 t1 t2 HEV ⊢
 focus go_wp2_with fail
 (try simp only [Exit.inBlock,Exit.then])
 refine bodyPost_ret (by simp [results,Tryz.results47,go_sem,r0,r1,r2,r3,r4,r5,r6,r7,r8,r9,r10,t0,t1,t2]) rfl HEV.out
 all_goals
  go_wp2_with (first
   | (have h:=T5.out;go_at_call 85;refine (CBx.out _ _ _ h.rd).mono ?_;rintro e z6 ⟨rfl,hb⟩;replace RU:=hid (RU.out.below hb);clear hb h T5)
   | (go_at_call 91;refine (CF.out _ _).mono ?_;rintro e zf ⟨rfl,hb⟩;have SZ:=hid (RU.out.below hb);clear hb)
   | (have h:=SZ.out;refine wpList_store_row rfl 31 (.tmp 2) _ rfl w.heap.size _ rfl rfl _ _ h.ru.blk (by kernel_rfl) rfl (by simp [Value.oneCell']) ?_;clear h;have SM:=hid (SZ.out.mid #[.slice none 0 0,.int .i64 0,.int .i64 0,.slice none 0 0,.int .u32 0,.int .u32 0,.int .u32 0,.int .u32 0,.int .u32 0,.slice none 0 0,.slice none 0 0]))
   | (have h:=SM.out;refine wpList_store_row rfl 34 (.tmp 3) _ rfl (w.heap.size+1) _ rfl rfl _ _ h (by kernel_rfl) rfl (by simp [Value.oneCell']) ?_;clear h;clear SM))
  (try simp only [Exit.inBlock,Exit.then])
  obtain ⟨⟨r0,r1,r2,r3,r4,r5,r6,r7,r8,r9,r10⟩,t0,t1,t2⟩:=FZ.out _ SZ.out
  unfold endZ at r0 r1 r2 r3 r4 r5 r6 r7 r8 r9 r10 t0 t1 t2
  refine bodyPost_ret (by simp [results,Tryz.results47,go_sem,r0,r1,r2,r3,r4,r5,r6,r7,r8,r9,r10,t0,t1,t2]) rfl (SZ.out.bad0 HD.out rfl (by decide))
end Upd
namespace Msg
open Go.RowKit Mem Oct Att PR Opn Upd Ntc Frm
open Go.Lib (hid)
structure TwoB (w:World) (q r:Ms) (Uq Nq Ur Nr:List Value) (W:World):Prop where
 bq:BoxM W w.heap.size q.kind (ocells q.op) Uq Nq
 br:BoxM W (w.heap.size+1) r.kind (ocells r.op) Ur Nr
 low:Below w.heap.size w W
theorem own_msgs {v:Value} {m:Ms} {w:World} (h:Msgs w v m):∃ U N U' N',v=.agg (mcells m.kind (ocells m.op) U N).toArray∧Parts (ocells m.op) U N∧Parts (ocells (onlyM m).op) U' N'∧Msgs w (.agg (mcells (onlyM m).kind (ocells (onlyM m).op) U' N').toArray) (onlyM m)∧∀ W,Calls Tryz.prog 34 #[v] W (Tells (.agg (mcells (onlyM m).kind (ocells (onlyM m).op) U' N').toArray) W):=by
 obtain ⟨U,N,rfl,hp,ho,hu,hn⟩:=h
 exact ⟨U,N,_,_,rfl,hp,only_parts hp,only_msgs hp ho hu hn,fun W=>own13 m U N W hp⟩
theorem mcells_inj {k:Int} {O U N U2 N2:List Value} (h:Parts O U N) (e:mcells k O U N=mcells k O U2 N2) (hl:U2.length=11):U2=U∧N2=N:=by
 unfold mcells at e
 injection e with _ e
 have e2:=List.append_cancel_left e
 obtain ⟨e3,e4⟩:=List.append_inj e2 (by rw [h.lu,hl])
 exact ⟨e3.symm,e4.symm⟩
theorem psame13 (va vb : Value) (a b : Ms) (w : World) (ha : Msgs w va a) (hb : Msgs w vb b) : Calls Tryz.prog 14 #[va, vb] w (Tells (.bool (sameM (onlyM a) (onlyM b))) w) := by
  obtain ⟨U,N,Uq,Nq,rfl,hp,hpq,hmq,hca⟩:=own_msgs ha
  obtain ⟨U',N',Ur,Nr,rfl,hp',hpr,hmr,hcb⟩:=own_msgs hb
  obtain ⟨x1,x2,x3⟩:=two_start (k:=a.kind) (k2:=b.kind) w hp hp'
  obtain ⟨w1,hw1⟩:∃ w1,(w.alloc (.cells (mcells a.kind (ocells a.op) U N).toArray 36)).alloc (.cells (mcells b.kind (ocells b.op) U' N').toArray 36)=w1:=⟨_,rfl⟩
  rw [hw1] at x1 x2 x3
  generalize onlyM a=q at hpq hmq hca ⊢
  generalize onlyM b=r at hpr hmr hcb ⊢
  have X1:=hid x1
  have X2:=hid x2
  have X3:=hid x3
  have CA:=hid hca
  have CB:=hid hcb
  have PQ:=hid hpq
  have PR:=hid hpr
  have HM:=hid (fun W (h:Below w.heap.size w W)=>And.intro (hmq.keep h) (hmr.keep h))
  clear x1 x2 x3 hp hp' hca hcb hpq hpr hmq hmr ha hb
  obtain ⟨g,hg0⟩:∃ g,sameM q r=g:=⟨_,rfl⟩
  rw [hg0]
  have HG0:=hid hg0
  clear hg0
  go_enter Tryz.func14,Tryz.ntmps14
  go_upto_region 1 with fail
  go_cut [] (fun wx=>Hid (TwoB w q r Uq Nq Ur Nr wx))
  case first =>
    have hd:Below w1.heap.size w1 w1.drew:=(Below.refl _ w1).drew
    replace X1:=hid (X1.out.keep hd)
    replace X2:=hid (X2.out.keep hd)
    replace X3:=hid (X3.out.trans (hd.mono X3.out.size))
    clear hd hw1
    refine wp_region_noPanic ?_
    refine wp_region_held_drew (S:=fun _=>True) (by kernel_rfl) trivial (fun _=>?_)
    refine wpAnyH_ready (rs:=[0,2]) (by kernel_rfl) (by simp) ?_
    refine AllReadyH.cons (o:=_) (by rfl) (fun K1 hK=>?_) (AllReadyH.cons (o:=_) (by rfl) (fun K1 hK=>?_) AllReadyH.nil)
    iterate 4
      all_goals
        rw [if_pos (by rfl)]
        first
          | (refine wp_load_m 5 rfl X1.out _ rfl rfl ?_
             have D0:=hid True.intro
             refine hK.out _ _ trivial (fun _=>?_)
             clear hK K1
             simp only [Act.put,Take.nm])
          | (refine wp_load_m 7 rfl X2.out _ rfl rfl ?_
             have D2:=hid True.intro
             refine hK.out _ _ trivial (fun _=>?_)
             clear hK K1
             simp only [Act.put,Take.nm])
          | (have tok := Q1.out
             have Q3:=hid tok
             go_simp
             go_at_call 34
             refine (CB.out _).mono ?_
             rintro e z ⟨rfl,hb⟩
             replace X1:=hid (X1.out.keep hb)
             replace X2:=hid (X2.out.keep hb)
             replace X3:=hid (X3.out.trans (hb.mono X3.out.size))
             (try go_wp2_with fail)
             refine hK.out _ _ trivial (fun _=>?_)
             clear hK K1 tok hb
             try simp only [Act.put,Take.nm])
          | (have Q1 := hid D0.out
             go_simp
             go_at_call 34
             refine (CA.out _).mono ?_
             rintro e z ⟨rfl,hb⟩
             replace X1:=hid (X1.out.keep hb)
             replace X2:=hid (X2.out.keep hb)
             replace X3:=hid (X3.out.trans (hb.mono X3.out.size))
             (try go_wp2_with fail)
             refine hK.out _ _ trivial (fun _=>?_)
             clear hK K1 hb
             try simp only [Act.put,Take.nm])
      all_goals
        first
          | (have tok:=Q3.out;clear tok)
          | (have tok:=Q1.out;have tok2:=D2.out;clear tok tok2;refine wpAnyH_ready (rs:=[3]) (by kernel_rfl) (by simp) ?_;refine AllReadyH.cons (o:=_) (by rfl) (fun K1 hK=>?_) AllReadyH.nil)
          | (have tok:=Q1.out;clear tok;refine wpAnyH_ready (rs:=[2]) (by kernel_rfl) (by simp) ?_;refine AllReadyH.cons (o:=_) (by rfl) (fun K1 hK=>?_) AllReadyH.nil)
          | (have tok:=D0.out;have tok2:=D2.out;clear tok tok2;refine wpAnyH_ready (rs:=[1]) (by kernel_rfl) (by simp) ?_;refine AllReadyH.cons (o:=_) (by rfl) (fun K1 hK=>?_) AllReadyH.nil)
          | (have tok:=D0.out;clear tok;refine wpAnyH_ready (rs:=[1,2]) (by kernel_rfl) (by simp) ?_;refine AllReadyH.cons (o:=_) (by rfl) (fun K1 hK=>?_) (AllReadyH.cons (o:=_) (by rfl) (fun K1 hK=>?_) AllReadyH.nil))
          | (have tok:=D2.out;clear tok;refine wpAnyH_ready (rs:=[0]) (by kernel_rfl) (by simp) ?_;refine AllReadyH.cons (o:=_) (by rfl) (fun K1 hK=>?_) AllReadyH.nil)
    all_goals
      refine wpAnyH_ready (rs:=[4]) (by kernel_rfl) (by simp) ?_
      refine AllReadyH.cons (o:=_) (by rfl) (fun K1 hK=>?_) AllReadyH.nil
      rw [if_pos (by rfl)]
      refine wp_store_m X1.out PQ.out _ _ rfl rfl rfl ?_
      intro w4 hb4 ht4
      refine hK.out _ _ trivial (fun _=>?_)
      clear hK K1
      try simp only [Act.put,Take.nm]
      refine wpAnyH_ready (rs:=[5]) (by kernel_rfl) (by simp) ?_
      refine AllReadyH.cons (o:=_) (by rfl) (fun K1 hK=>?_) AllReadyH.nil
      rw [if_pos (by rfl)]
      refine wp_store_m (X2.out.turned ht4 (Nat.succ_ne_self _)) PR.out _ _ rfl rfl rfl ?_
      intro w5 hb5 ht5
      refine hK.out _ _ trivial (fun _=>?_)
      clear hK K1
      simp only [Act.put]
      refine wpAnyH_done (by kernel_rfl) ?_ _
      refine NoPanic.normal ?_
      go_wp2_with fail
      go_meet
      exact hid ⟨hb4.turned ht5 (Nat.succ_ne_self _).symm,hb5,ht5.low (Nat.le_succ _) (ht4.low (Nat.le_refl _) X3.out)⟩
  case rest =>
  generalize wc=wk at hcut ⊢
  have BX:=hid hcut.out.bq
  have BY:=hid hcut.out.br
  have HB:=hid hcut.out.low
  clear hcut CA CB PQ PR X1 X2 X3
  obtain ⟨k,o,u,n⟩:=q
  obtain ⟨k2,o2,u2,n2⟩:=r
  dsimp only at BX BY HM
  have hmm:=HM.out _ HB.out
  obtain ⟨⟨Ux,Nx,e1,px,-,hu,hn⟩,⟨Uy,Ny,e2,py,-,hu2,hn2⟩⟩:=hmm
  have e1:=agg_inj e1
  have e2:=agg_inj e2
  dsimp only at hu hn hu2 hn2 e1 e2
  obtain ⟨rfl,rfl⟩:=mcells_inj BX.out.parts e1 px.lu
  obtain ⟨rfl,rfl⟩:=mcells_inj BY.out.parts e2 py.lu
  have CU:=hid (fun v x W (h:Upds W v u) (h2:Upds W x u2)=>Upd.usame_any v x u u2 W h h2)
  have CT:=hid (fun v x W (h:Note W v n) (h2:Note W x n2)=>Ntc.same_any v x n n2 W h h2)
  have HU:=hid (And.intro hu hu2)
  have HN:=hid (And.intro hn hn2)
  have HG:=hid (show g=(decide (k=k2) && decide (o=o2) && sameU u u2 && sameN n n2) from HG0.out.symm)
  clear HG0
  have eq1:=fun W=>eql_open W o o2
  clear hu hn hu2 hn2 e1 e2 HM px py
  generalize sameU u u2=g1 at CU HG
  generalize sameN n n2=g2 at CT HG
  generalize decide (o=o2)=g3 at eq1 HG
  have c0:=BX.out.c0
  have d0:=BY.out.c0
  by_cases hk:k=k2
  rotate_left
  focus
    have y1:(k == k2)=false:=by simp [hk]
    obtain rfl:g=false:=by rw [HG.out];simp [hk]
  rotate_left
  focus
    subst hk
    have y1:(k == k)=true:=by simp
    have hg:=HG.out
    rw [decide_eq_true rfl] at hg
    have T1:=hid True.intro
    cases g3
    focus
      obtain rfl:g=false:=by rw [hg];simp
    rotate_left
    focus
      have T3:=hid True.intro
      cases g1
      focus
        obtain rfl:g=false:=by rw [hg];simp
      rotate_left
      focus
        obtain rfl:g=g2:=by rw [hg];simp
        have T5:=hid True.intro
      rotate_left
    all_goals clear hg
  all_goals
    clear HG
    go_wp2_with (first
      | (have tok:=T1.out;refine load_o BX.out _ rfl rfl (by kernel_rfl) ?_;have T2:=hid tok;clear T1 tok)
      | (have tok:=T2.out;refine load_o BY.out _ rfl rfl (by kernel_rfl) ?_;clear T2 tok)
      | (have tok:=T3.out;refine load_u BX.out _ rfl rfl (by kernel_rfl) ?_;have T4:=hid tok;clear T3 tok)
      | (have tok:=T4.out;refine load_u BY.out _ rfl rfl (by kernel_rfl) ?_;clear T4 tok)
      | (have tok:=T5.out;refine load_n BX.out _ rfl rfl (by kernel_rfl) ?_;have T6:=hid tok;clear T5 tok)
      | (have tok:=T6.out;refine load_n BY.out _ rfl rfl (by kernel_rfl) ?_;clear T6 tok)
      | (go_at_call 39;refine (CU.out _ _ _ HU.out.1 HU.out.2).mono ?_;rintro e x ⟨rfl,hb⟩;replace HB:=hid (HB.out.trans (hb.mono HB.out.size));replace BX:=hid (BX.out.keep hb);replace BY:=hid (BY.out.keep hb);replace HN:=hid (And.intro (HN.out.1.keep hb) (HN.out.2.keep hb));clear hb)
      | (go_at_call 40;refine (CT.out _ _ _ HN.out.1 HN.out.2).mono ?_;rintro e x ⟨rfl,hb⟩;replace HB:=hid (HB.out.trans (hb.mono HB.out.size));replace BX:=hid (BX.out.keep hb);replace BY:=hid (BY.out.keep hb);replace HN:=hid (And.intro (HN.out.1.keep hb) (HN.out.2.keep hb));clear hb))
    go_ret
    exact ⟨rfl,HB.out⟩
end Msg
end Go.Proofs.YtjfmompgkkdliaaGreatDoor
