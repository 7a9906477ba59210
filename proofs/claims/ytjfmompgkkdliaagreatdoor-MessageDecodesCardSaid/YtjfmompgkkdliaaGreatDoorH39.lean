/- Part of the proof. -/
import Derived.Test.YtjfmompgkkdliaaGreatDoorH37
import Derived.Test.YtjfmompgkkdliaaGreatDoorH24
import Derived.Test.YtjfmompgkkdliaaGreatDoorH38
import Derived.Test.YtjfmompgkkdliaaGreatDoorH02
import Derived.Test.YtjfmompgkkdliaaGreatDoorH03
import Derived.Laws.CopyOwn
import Derived.Test.YtjfmompgkkdliaaGreatDoorH06
import Derived.Deep.DeepCutAuto
import Derived.Test.YtjfmompgkkdliaaGreatDoorH04
import Derived.Deep.RegionWith
import Derived.Deep.RegionLaw
import Derived.IntWalk
import Derived.Test.YtjfmompgkkdliaaGreatDoorH07
open Go.Lib (hid)
set_option maxRecDepth 100000
set_option maxHeartbeats 40000000
namespace Go.Proofs.YtjfmompgkkdliaaGreatDoor
namespace Upd
open Go.RowKit Mem Segm Oct Att Seg PR
theorem u8s_nil_any {W W2:World} {v:Value} (h:U8s W v []):U8s W2 v []:=by
 obtain ⟨⟨hl,A,c,rfl,hn,hc,-⟩,hs⟩:=h
 exact ⟨⟨hl,A,c,rfl,hn,hc,fun h0=>absurd h0 (Nat.lt_irrefl 0)⟩,hs⟩
def DecU (b:List Nat) (w:World) (e:Ending) (w':World):Prop :=
 ∃ vu vn,e=.returned (.tuple #[vu,vn])∧UpdF w.heap.size w' vu (outU (decU b)).1∧Note w' vn (outU (decU b)).2∧Below w.heap.size w w'
structure RdU (w W:World):Prop where
 ru:BoxU W w.heap.size 31 zeroA (.slice none 0 0) (.slice none 0 0) (.slice none 0 0) (.slice none 0 0)
 r3:Box3 W (w.heap.size+1) 34 (.int .i64 0) (.int .i64 0) (.slice none 0 0)
 low:Below w.heap.size w W
theorem RdU.below {w W W2:World} (h:RdU w W) (hb:Below W.heap.size W W2):RdU w W2:=⟨h.ru.keep hb,h.r3.keep hb,h.low.trans (hb.mono h.low.size)⟩
def endU (w W:World) (a:At) (vg vp vc vh x y z:Value):World:=(W.setRow w.heap.size #[vg,.int .i64 a.has,.int .i64 a.origin,vp,.int .u32 a.hop,.int .u32 a.med,.int .u32 a.pref,.int .u32 a.aas,.int .u32 a.aid,vc,vh]).setRow (w.heap.size+1) #[x,y,z]
section
variable {w W W2:World} {a:At} {vg vp vc vh x y z:Value}
theorem RdU.mid (h:RdU w W) (cs:Array Value):(W.setRow w.heap.size cs).heap[w.heap.size+1]?=some (.cells #[.int .i64 0,.int .i64 0,.slice none 0 0] 34 (0,0)) :=
 (setRow_other W w.heap.size (w.heap.size+1) cs (by omega)).trans h.r3.blk
theorem endU_off (w W:World) (a:At) (vg vp vc vh x y z:Value):(∀ k,w.heap.size+2≤k→(endU w W a vg vp vc vh x y z).heap[k]?=W.heap[k]?)∧W.heap.size≤(endU w W a vg vp vc vh x y z).heap.size :=
 ⟨fun k hk=>(setRow_other _ _ k _ (by omega)).trans (setRow_other _ _ k _ (by omega)),by simp [endU]⟩
theorem RdU.fin (h:RdU w W) (a:At) (vg vp vc vh x y z:Value):BoxU (endU w W a vg vp vc vh x y z) w.heap.size 31 a vg vp vc vh∧Box3 (endU w W a vg vp vc vh x y z) (w.heap.size+1) 34 x y z∧Below w.heap.size w (endU w W a vg vp vc vh x y z) :=
 ⟨⟨(setRow_other _ _ _ _ (by omega)).trans (setRow_heap W w.heap.size _ _ _ _ h.ru.blk)⟩,⟨setRow_heap _ _ _ _ _ _ (h.mid _)⟩,below_setRow (below_setRow h.low (Nat.le_refl _) _) (by omega) _⟩
end
def endZ (w W:World) (x y z:Value):World:=(W.setRow w.heap.size #[.slice none 0 0,.int .i64 0,.int .i64 0,.slice none 0 0,.int .u32 0,.int .u32 0,.int .u32 0,.int .u32 0,.int .u32 0,.slice none 0 0,.slice none 0 0]).setRow (w.heap.size+1) #[x,y,z]
theorem RdU.finZ {w W:World} (h:RdU w W) (x y z:Value):((endZ w W x y z).cell? ⟨w.heap.size,0,none⟩=some (.slice none 0 0)∧(endZ w W x y z).cell? ⟨w.heap.size,1,none⟩=some (.int .i64 0)∧(endZ w W x y z).cell? ⟨w.heap.size,2,none⟩=some (.int .i64 0)∧(endZ w W x y z).cell? ⟨w.heap.size,3,none⟩=some (.slice none 0 0)∧(endZ w W x y z).cell? ⟨w.heap.size,4,none⟩=some (.int .u32 0)∧(endZ w W x y z).cell? ⟨w.heap.size,5,none⟩=some (.int .u32 0)∧(endZ w W x y z).cell? ⟨w.heap.size,6,none⟩=some (.int .u32 0)∧(endZ w W x y z).cell? ⟨w.heap.size,7,none⟩=some (.int .u32 0)∧(endZ w W x y z).cell? ⟨w.heap.size,8,none⟩=some (.int .u32 0)∧(endZ w W x y z).cell? ⟨w.heap.size,9,none⟩=some (.slice none 0 0)∧(endZ w W x y z).cell? ⟨w.heap.size,10,none⟩=some (.slice none 0 0))∧(endZ w W x y z).cell? ⟨w.heap.size+1,0,none⟩=some x∧(endZ w W x y z).cell? ⟨w.heap.size+1,1,none⟩=some y∧(endZ w W x y z).cell? ⟨w.heap.size+1,2,none⟩=some z :=
 ⟨(h.fin zeroA (.slice none 0 0) (.slice none 0 0) (.slice none 0 0) (.slice none 0 0) x y z).1.cells,(h.fin zeroA (.slice none 0 0) (.slice none 0 0) (.slice none 0 0) (.slice none 0 0) x y z).2.1.cells⟩
theorem RdU.bad {w W:World} (h:RdU w W) {b:List Nat} {n:No} {s:Int} {A:Option Addr} {m c:Nat} (hd:decU b=.inl n) (hn:n.code=3∧n.sub=s) (hw:(Lit.int .i64 s).wf=true) (hU:U8s W (.slice A m c) n.data) (hA:∀ g,(Value.slice A m c).ownBlock=some g→w.heap.size+2≤g) :
  DecU b w (.returned (.tuple #[.agg #[.slice none 0 0,.int .i64 0,.int .i64 0,.slice none 0 0,.int .u32 0,.int .u32 0,.int .u32 0,.int .u32 0,.int .u32 0,.slice none 0 0,.slice none 0 0],.agg #[.int .i64 3,.int .i64 s,.slice A m c]])) (endU w W zeroA (.slice none 0 0) (.slice none 0 0) (.slice none 0 0) (.slice none 0 0) (.int .i64 3) (.int .i64 s) (.slice A m c)):=by
 have ho:=endU_off w W zeroA (.slice none 0 0) (.slice none 0 0) (.slice none 0 0) (.slice none 0 0) (.int .i64 3) (.int .i64 s) (.slice A m c)
 unfold DecU
 rw [hd]
 obtain ⟨n1,n2⟩:=hn
 refine ⟨_,_,rfl,updF_zero _ _,⟨by show (Lit.int .i64 n.code).wf=true;rw [n1];decide,by show (Lit.int .i64 n.sub).wf=true;rw [n2];exact hw,_,by show _=Value.agg #[.int .i64 n.code,.int .i64 n.sub,_];rw [n1,n2],hU.part (fun g hg=>ho.1 g (hA g hg)) ho.2⟩,(h.fin _ _ _ _ _ _ _ _).2.2⟩
theorem RdU.badN {w W:World} (h:RdU w W) {b:List Nat} {n:No} {A:Option Addr} {m c:Nat} (hd:decU b=.inl n) (hN:Note W (.agg #[.int .i64 n.code,.int .i64 n.sub,.slice A m c]) n) :
  DecU b w (.returned (.tuple #[.agg #[.slice none 0 0,.int .i64 0,.int .i64 0,.slice none 0 0,.int .u32 0,.int .u32 0,.int .u32 0,.int .u32 0,.int .u32 0,.slice none 0 0,.slice none 0 0],.agg #[.int .i64 n.code,.int .i64 n.sub,.slice A m c]])) (endZ w W (.int .i64 n.code) (.int .i64 n.sub) (.slice A m c)):=by
 obtain ⟨h1,h2,vd,h3,h4⟩:=hN
 have e:vd=.slice A m c:=by
  injection h3 with h3
  have:=congrArg (fun (x:Array Value)=>x[2]?) h3
  simpa using this.symm
 subst e
 have k1:∀ i (k:Int),W.cell? ⟨w.heap.size,i,none⟩≠some (.int .u8 k):=no8_cells h.ru.blk (fun x hx m e=>by subst e;simp at hx)
 have k2:∀ i (k:Int),(W.setRow w.heap.size #[.slice none 0 0,.int .i64 0,.int .i64 0,.slice none 0 0,.int .u32 0,.int .u32 0,.int .u32 0,.int .u32 0,.int .u32 0,.slice none 0 0,.slice none 0 0]).cell? ⟨w.heap.size+1,i,none⟩≠some (.int .u8 k):=no8_cells (h.mid _) (fun x hx m e=>by subst e;simp at hx)
 have h5:=u8_apart (u8_apart h4 k1 (W':=W.setRow w.heap.size #[.slice none 0 0,.int .i64 0,.int .i64 0,.slice none 0 0,.int .u32 0,.int .u32 0,.int .u32 0,.int .u32 0,.int .u32 0,.slice none 0 0,.slice none 0 0]) (fun k hk=>setRow_other _ _ _ _ hk) (by simp)) k2 (W':=endZ w W (.int .i64 n.code) (.int .i64 n.sub) (.slice A m c)) (fun k hk=>setRow_other _ _ _ _ hk) (by simp [endZ])
 unfold DecU
 rw [hd]
 exact ⟨_,_,rfl,updF_zero _ _,⟨h1,h2,_,rfl,h5⟩,(h.fin zeroA (.slice none 0 0) (.slice none 0 0) (.slice none 0 0) (.slice none 0 0) _ _ _).2.2⟩
theorem RdU.bad0 {w W:World} (h:RdU w W) {b:List Nat} {s:Nat} {si:Int} (hd:decU b=.inl ⟨3,s,[]⟩) (hi:si=(s:Int)) (hl:s≤255) :
  DecU b w (.returned (.tuple #[.agg #[.slice none 0 0,.int .i64 0,.int .i64 0,.slice none 0 0,.int .u32 0,.int .u32 0,.int .u32 0,.int .u32 0,.int .u32 0,.slice none 0 0,.slice none 0 0],.agg #[.int .i64 3,.int .i64 si,.slice none 0 0]])) (endU w W zeroA (.slice none 0 0) (.slice none 0 0) (.slice none 0 0) (.slice none 0 0) (.int .i64 3) (.int .i64 si) (.slice none 0 0)) :=
 h.bad hd ⟨rfl,hi.symm⟩ (by subst hi;simp [Lit.wf,IntKind.min,IntKind.max,IntKind.signed,IntKind.bits];omega) (U8s.nil _) (fun g hg=>by cases hg)
theorem atF_keep {n:Nat} {W W2:World} {v:Value} {a:At} (h:AtF n W v a) (hb:Below W.heap.size W W2):AtF n W2 v a:=by
 obtain ⟨h1,vp,vc,h2,h3,h4,h5⟩:=h
 exact ⟨h1,vp,vc,h2,h3.keep hb,h4.keep hb,h5⟩
theorem atF_lower {n m:Nat} {W:World} {v:Value} {a:At} (h:AtF n W v a) (hm:m≤n):AtF m W v a:=by
 obtain ⟨h1,vp,vc,h2,h3,h4,h5⟩:=h
 exact ⟨h1,vp,vc,h2,h3.lower hm hm,h4,h5.lower hm⟩
theorem dec16_of {R:List Nat} {W w':World} {e:Ending} (h:DecG R W e w'):∃ (a:At) (n:No) (Ap:Option Addr) (np cp:Nat) (Ac:Option Addr) (nc cc:Nat) (Ad:Option Addr) (nd cd:Nat),a=(outA (decodeA R)).1∧n=(outA (decodeA R)).2 ∧
  e=.returned (.tuple #[aV a (.slice Ap np cp) (.slice Ac nc cc),.agg #[.int .i64 n.code,.int .i64 n.sub,.slice Ad nd cd]])∧AtF W.heap.size w' (aV a (.slice Ap np cp) (.slice Ac nc cc)) a∧Note w' (.agg #[.int .i64 n.code,.int .i64 n.sub,.slice Ad nd cd]) n∧Below W.heap.size W w':=by
 obtain ⟨va,vn,h1,⟨h2,vp,vc,rfl,h3,h4,h5⟩,⟨h6,h7,vd,rfl,h8⟩,h9⟩:=h
 obtain ⟨Ap,cp,rfl⟩:=h3.form
 obtain ⟨Ac,cc,e4⟩:=h4.1.2
 obtain ⟨Ad,cd,rfl,-⟩:=h8.form
 obtain ⟨rfl,-⟩:=e4
 exact ⟨_,_,Ap,_,cp,Ac,_,cc,Ad,_,cd,rfl,rfl,h1,⟨h2,_,_,rfl,h3,h4,h5⟩,⟨h6,h7,_,rfl,h8⟩,h9⟩
def new16 (x:World):World:=(x.alloc (.cells #[.int .i64 0,.int .i64 0,.slice none 0 0,.int .u32 0,.int .u32 0,.int .u32 0,.int .u32 0,.int .u32 0,.slice none 0 0] 29)).alloc (.cells #[.int .i64 0,.int .i64 0,.slice none 0 0] 34)
theorem new16_9 (x:World):(new16 x).heap[x.heap.size]?=some (.cells #[.int .i64 0,.int .i64 0,.slice none 0 0,.int .u32 0,.int .u32 0,.int .u32 0,.int .u32 0,.int .u32 0,.slice none 0 0] 29 (0,0)) :=
 ((Box9.new x 29 (.int .i64 0) (.int .i64 0) (.slice none 0 0) (.int .u32 0) (.int .u32 0) (.int .u32 0) (.int .u32 0) (.int .u32 0) (.slice none 0 0)).keep ((Below.refl _ _).alloc (Nat.le_refl _) _)).blk
theorem new16_3 (x:World) (cs:Array Value):((new16 x).setRow x.heap.size cs).heap[x.heap.size+1]?=some (.cells #[.int .i64 0,.int .i64 0,.slice none 0 0] 34 (0,0)):=by
 have h:=Box3.new (x.alloc (.cells #[.int .i64 0,.int .i64 0,.slice none 0 0,.int .u32 0,.int .u32 0,.int .u32 0,.int .u32 0,.int .u32 0,.slice none 0 0] 29)) 34 (.int .i64 0) (.int .i64 0) (.slice none 0 0)
 have e:(x.alloc (.cells #[.int .i64 0,.int .i64 0,.slice none 0 0,.int .u32 0,.int .u32 0,.int .u32 0,.int .u32 0,.int .u32 0,.slice none 0 0] 29)).heap.size=x.heap.size+1:=by simp
 rw [e] at h
 exact (setRow_other _ _ _ _ (by omega)).trans h.blk
theorem new16_low (x:World):Below x.heap.size x (new16 x):=((Below.refl x.heap.size x).alloc (Nat.le_refl _) _).alloc (by simp) _
theorem zcells {W:World} {B:Nat} {t:TypeId} {vg vp vc vh:Value} (h:BoxU W B t zeroA vg vp vc vh):W.cell? ⟨B,0,none⟩=some vg∧W.cell? ⟨B,1,none⟩=some (.int .i64 0)∧W.cell? ⟨B,2,none⟩=some (.int .i64 0)∧W.cell? ⟨B,3,none⟩=some vp∧W.cell? ⟨B,4,none⟩=some (.int .u32 0)∧W.cell? ⟨B,5,none⟩=some (.int .u32 0)∧W.cell? ⟨B,6,none⟩=some (.int .u32 0)∧W.cell? ⟨B,7,none⟩=some (.int .u32 0)∧W.cell? ⟨B,8,none⟩=some (.int .u32 0)∧W.cell? ⟨B,9,none⟩=some vc∧W.cell? ⟨B,10,none⟩=some vh:=h.cells
theorem decA_code:∀ (n:Nat) (seen:List Nat) (a:At) (b:List Nat) (x:No),decA n seen a b=.inl x→x.code=3
 | 0,seen,a,b,x,h=>by unfold decA at h;cases h
 | n+1,seen,a,b,x,h=>by
  unfold decA at h
  split at h
  ·cases h
  ·cases hit:itemOf b with
   | none=>rw [hit] at h;injection h with h;rw [← h]
   | some y =>
    rw [hit] at h
    dsimp only at h
    split at h
    ·injection h with h;rw [← h]
    ·split at h
     ·exact decA_code n _ _ _ x h
     ·injection h with h
      rw [← h]
      unfold badN
      split <;> rfl
theorem note_nil {W W2:World} {n:No} {A:Option Addr} {m c:Nat} (h:Note W (.agg #[.int .i64 n.code,.int .i64 n.sub,.slice A m c]) n) (hn:n.data=[]):Note W2 (.agg #[.int .i64 n.code,.int .i64 n.sub,.slice A m c]) n:=by
 obtain ⟨h1,h2,vd,h3,h4⟩:=h
 have e:vd=.slice A m c:=by
  injection h3 with h3
  have:=congrArg (fun (x:Array Value)=>x[2]?) h3
  simpa using this.symm
 subst e
 rw [hn] at h4
 exact ⟨h1,h2,_,rfl,by rw [hn];exact u8s_nil_any h4⟩
theorem RdU.okN {w W:World} (h:RdU w W) {b:List Nat} {u:Up} {base:Nat} {vg vp vc vh:Value} {A:Option Addr} {m c:Nat} (hb:w.heap.size+2≤base) (hu:UpdF base W (uV u.at_ vg vp vc vh) u) (hn:Note W (.agg #[.int .i64 0,.int .i64 0,.slice A m c]) ⟨0,0,[]⟩) (hd:decU b=.inr u) :
  DecU b w (.returned (.tuple #[.agg #[vg,.int .i64 u.at_.has,.int .i64 u.at_.origin,vp,.int .u32 u.at_.hop,.int .u32 u.at_.med,.int .u32 u.at_.pref,.int .u32 u.at_.aas,.int .u32 u.at_.aid,vc,vh],.agg #[.int .i64 0,.int .i64 0,.slice A m c]])) (endU w W u.at_ vg vp vc vh (.int .i64 0) (.int .i64 0) (.slice A m c)):=by
 have hoff:=endU_off w W u.at_ vg vp vc vh (.int .i64 0) (.int .i64 0) (.slice A m c)
 unfold DecU
 rw [hd]
 exact ⟨_,_,rfl,(hu.off (fun k hk=>hoff.1 k (by omega)) hoff.2).lower (by omega),note_nil (n:=⟨0,0,[]⟩) hn rfl,(h.fin _ _ _ _ _ _ _ _).2.2⟩
end Upd
namespace Upd
open Go.RowKit Mem Segm Oct Att Seg PR
theorem rno10_any (s:Int) (A:Option Addr) (n c:Nat) (w:World):Calls Tryz.prog 96 #[.int .i64 s,.slice A n c] w (Tells (.tuple #[.agg #[.slice none 0 0,.int .i64 0,.int .i64 0,.slice none 0 0,.int .u32 0,.int .u32 0,.int .u32 0,.int .u32 0,.int .u32 0,.slice none 0 0,.slice none 0 0],.agg #[.int .i64 3,.int .i64 s,.slice A n c]]) w):=by
 have HB:=hid (((Below.refl w.heap.size w).alloc (Nat.le_refl _) (.cells #[.slice none 0 0,.int .i64 0,.int .i64 0,.slice none 0 0,.int .u32 0,.int .u32 0,.int .u32 0,.int .u32 0,.int .u32 0,.slice none 0 0,.slice none 0 0] 31)).alloc (by simp) (.cells #[.int .i64 3,.int .i64 s,.slice A n c] 34))
 go_enter Tryz.func96,Tryz.ntmps96
 go_wp2
 (try simp only [Exit.inBlock,Exit.then])
 refine bodyPost_ret (v:=.tuple #[.agg #[.slice none 0 0,.int .i64 0,.int .i64 0,.slice none 0 0,.int .u32 0,.int .u32 0,.int .u32 0,.int .u32 0,.int .u32 0,.slice none 0 0,.slice none 0 0],.agg #[.int .i64 3,.int .i64 s,.slice A n c]]) (by simp [results,Tryz.results96,go_sem]) rfl ?_
 exact ⟨rfl,HB.out⟩
structure RdV (w:World) (vg:Value) (W:World):Prop where
 rd:RdU w W
 bu:BoxU W (w.heap.size+1+1) 31 zeroA vg (.slice none 0 0) (.slice none 0 0) (.slice none 0 0)
theorem RdV.below {w W W2:World} {vg:Value} (h:RdV w vg W) (hb:Below W.heap.size W W2):RdV w vg W2:=⟨h.rd.below hb,h.bu.keep hb⟩
theorem RdV.set {w W:World} {vg:Value} (h:RdV w vg W) (v:Value):RdV w v (W.setCell ⟨w.heap.size+1+1,0,none⟩ v) :=
 ⟨⟨h.rd.ru.far (by omega) _,h.rd.r3.far (by omega) _,h.rd.low.setCell (p:=⟨w.heap.size+1+1,0,none⟩) (by show w.heap.size≤w.heap.size+1+1;omega) _⟩,⟨(Box11.set0 (x0:=vg) ⟨h.bu.blk⟩ v).blk⟩⟩
def Out7 (base:Nat) (G:List Nat) (vg:Value) (s:Bool) (W:World):Prop :=
 (dec val G=none∧s=false)∨∃ L A c,dec val G=some L∧s=true∧vg=.slice A L.length c∧W.ownsRow base 67 2 (.slice A L.length c) L.length (pcells L)∧Oks L
theorem Out7.off {n base:Nat} {G:List Nat} {vg:Value} {s:Bool} {W W2:World} (h:Out7 base G vg s W) (hn:n≤base) (hk:∀ k,n≤k→W2.heap[k]?=W.heap[k]?):Out7 base G vg s W2:=by
 rcases h with h | ⟨L,A,c,h1,h2,h3,h4,h5⟩
 ·exact .inl h
 ·exact .inr ⟨L,A,c,h1,h2,h3,own_off h4 (fun k hk2=>hk k (Nat.le_trans hn hk2)),h5⟩
theorem out7_of {G:List Nat} {W w':World} {e:Ending} (h:PR.DecF G W e w'):∃ A n c s,e=.returned (.tuple #[.slice A n c,.bool s])∧Out7 W.heap.size G (.slice A n c) s w'∧Below W.heap.size W w':=by
 rcases h with ⟨h1,h2,h3⟩ | ⟨L,A,c,h1,h2,h3,h4,h5⟩
 ·exact ⟨none,0,0,false,h2,.inl ⟨h1,rfl⟩,h3⟩
 ·exact ⟨A,L.length,c,true,h2,.inr ⟨L,A,c,h1,rfl,rfl,h3,h4⟩,h5⟩
def St7 (w:World) (G:List Nat) (s5:Value) (W:World):Prop :=
 ∃ A n c s,s5=.bool s∧Out7 (w.heap.size+3) G (.slice A n c) s W∧RdV w (.slice A n c) W
theorem RdV.ok0 {w W:World} {L:List Pf} {A:Option Addr} {c:Nat} (h:RdV w (.slice A L.length c) W) (ho:W.ownsRow (w.heap.size+3) 67 2 (.slice A L.length c) L.length (pcells L)) (hk:Oks L) {b:List Nat} (hd:decU b=.inr ⟨L,zeroA,[]⟩) :
  DecU b w (.returned (.tuple #[.agg #[.slice A L.length c,.int .i64 0,.int .i64 0,.slice none 0 0,.int .u32 0,.int .u32 0,.int .u32 0,.int .u32 0,.int .u32 0,.slice none 0 0,.slice none 0 0],.agg #[.int .i64 0,.int .i64 0,.slice none 0 0]])) (endU w W zeroA (.slice A L.length c) (.slice none 0 0) (.slice none 0 0) (.slice none 0 0) (.int .i64 0) (.int .i64 0) (.slice none 0 0)):=by
 have hoff:=endU_off w W zeroA (.slice A L.length c) (.slice none 0 0) (.slice none 0 0) (.slice none 0 0) (.int .i64 0) (.int .i64 0) (.slice none 0 0)
 unfold DecU
 rw [hd]
 refine ⟨_,_,rfl,⟨A,c,_,_,none,0,rfl,own_base (own_off ho (fun k hk=>hoff.1 k (by omega))) (by omega),hk,⟨zeroA_ok,nil_segsF _ _ _,U32s.nil _,NewAt.nil _⟩,World.ownsRow_nil _ _ _ _,oks_nil⟩,⟨(show (Lit.int .i64 0).wf=true by decide),(show (Lit.int .i64 0).wf=true by decide),_,rfl,U8s.nil _⟩,(h.rd.fin _ _ _ _ _ _ _ _).2.2⟩
structure S16 (w:World) (L:List Pf) (A:Option Addr) (c:Nat) (a:At) (n:No) (vp vc vd:Value) (B:Nat) (W:World):Prop where
 hB:w.heap.size+3≤B
 rv:RdV w (.slice A L.length c) W
 own:W.ownsRow (w.heap.size+3) 67 2 (.slice A L.length c) L.length (pcells L)
 at_:AtF (w.heap.size+3) W (aV a vp vc) a
 no:Note W (.agg #[.int .i64 n.code,.int .i64 n.sub,vd]) n
 b9:Box9 W B 29 (.int .i64 a.has) (.int .i64 a.origin) vp (.int .u32 a.hop) (.int .u32 a.med) (.int .u32 a.pref) (.int .u32 a.aas) (.int .u32 a.aid) vc
 b3:Box3 W (B+1) 34 (.int .i64 n.code) (.int .i64 n.sub) vd
theorem S16.below {w:World} {L:List Pf} {A:Option Addr} {c:Nat} {a:At} {n:No} {vp vc vd:Value} {B:Nat} {W W2:World} (h:S16 w L A c a n vp vc vd B W) (hb:Below W.heap.size W W2):S16 w L A c a n vp vc vd B W2 :=
 ⟨h.hB,h.rv.below hb,own_keep h.own hb,atF_keep h.at_ hb,h.no.keep hb,h.b9.keep hb,h.b3.keep hb⟩
theorem s16_start {w:World} {L:List Pf} {A:Option Addr} {c:Nat} {a:At} {n:No} {vp vc vd:Value} {x:World} (hs:w.heap.size+3≤x.heap.size) (h1:RdV w (.slice A L.length c) x) (h2:x.ownsRow (w.heap.size+3) 67 2 (.slice A L.length c) L.length (pcells L)) (h3:AtF (w.heap.size+3) x (aV a vp vc) a) (h4:Note x (.agg #[.int .i64 n.code,.int .i64 n.sub,vd]) n) :
  S16 w L A c a n vp vc vd x.heap.size (((new16 x).setRow x.heap.size #[.int .i64 a.has,.int .i64 a.origin,vp,.int .u32 a.hop,.int .u32 a.med,.int .u32 a.pref,.int .u32 a.aas,.int .u32 a.aid,vc]).setRow (x.heap.size+1) #[.int .i64 n.code,.int .i64 n.sub,vd]):=by
 have hb:Below x.heap.size x (((new16 x).setRow x.heap.size #[.int .i64 a.has,.int .i64 a.origin,vp,.int .u32 a.hop,.int .u32 a.med,.int .u32 a.pref,.int .u32 a.aas,.int .u32 a.aid,vc]).setRow (x.heap.size+1) #[.int .i64 n.code,.int .i64 n.sub,vd]) :=
  below_setRow (below_setRow (new16_low x) (Nat.le_refl _) _) (by omega) _
 exact ⟨hs,h1.below hb,own_keep h2 hb,atF_keep h3 hb,h4.keep hb,⟨(setRow_other _ _ _ _ (by omega)).trans (setRow_heap _ _ _ _ _ _ (new16_9 x))⟩,⟨setRow_heap _ _ _ _ _ _ (new16_3 x _)⟩⟩
theorem rdv_start (w:World):RdV w (.slice none 0 0) (((w.alloc (.cells #[.slice none 0 0,.int .i64 0,.int .i64 0,.slice none 0 0,.int .u32 0,.int .u32 0,.int .u32 0,.int .u32 0,.int .u32 0,.slice none 0 0,.slice none 0 0] 31)).alloc (.cells #[.int .i64 0,.int .i64 0,.slice none 0 0] 34)).alloc (.cells #[.slice none 0 0,.int .i64 0,.int .i64 0,.slice none 0 0,.int .u32 0,.int .u32 0,.int .u32 0,.int .u32 0,.int .u32 0,.slice none 0 0,.slice none 0 0] 31)):=by
 have h1:=BoxU.new w 31 zeroA (.slice none 0 0) (.slice none 0 0) (.slice none 0 0) (.slice none 0 0)
 have b1:Below w.heap.size w (w.alloc (.cells #[.slice none 0 0,.int .i64 0,.int .i64 0,.slice none 0 0,.int .u32 0,.int .u32 0,.int .u32 0,.int .u32 0,.int .u32 0,.slice none 0 0,.slice none 0 0] 31)):=(Below.refl _ w).alloc (Nat.le_refl _) _
 have e1:(w.alloc (.cells #[.slice none 0 0,.int .i64 0,.int .i64 0,.slice none 0 0,.int .u32 0,.int .u32 0,.int .u32 0,.int .u32 0,.int .u32 0,.slice none 0 0,.slice none 0 0] 31)).heap.size=w.heap.size+1:=by simp
 obtain ⟨W1,hW1⟩:∃ W1,W1=w.alloc (.cells #[.slice none 0 0,.int .i64 0,.int .i64 0,.slice none 0 0,.int .u32 0,.int .u32 0,.int .u32 0,.int .u32 0,.int .u32 0,.slice none 0 0,.slice none 0 0] 31):=⟨_,rfl⟩
 have h1':BoxU W1 w.heap.size 31 zeroA (.slice none 0 0) (.slice none 0 0) (.slice none 0 0) (.slice none 0 0):=by rw [hW1];exact h1
 rw [← hW1] at b1 e1 ⊢
 have h2:=Box3.new W1 34 (.int .i64 0) (.int .i64 0) (.slice none 0 0)
 have b2:Below W1.heap.size W1 (W1.alloc (.cells #[.int .i64 0,.int .i64 0,.slice none 0 0] 34)):=(Below.refl _ _).alloc (Nat.le_refl _) _
 have e2:(W1.alloc (.cells #[.int .i64 0,.int .i64 0,.slice none 0 0] 34)).heap.size=w.heap.size+1+1:=by simp [e1]
 rw [e1] at h2
 obtain ⟨W2,hW2⟩:∃ W2,W2=W1.alloc (.cells #[.int .i64 0,.int .i64 0,.slice none 0 0] 34):=⟨_,rfl⟩
 rw [← hW2] at h2 b2 e2 ⊢
 have h3:=BoxU.new W2 31 zeroA (.slice none 0 0) (.slice none 0 0) (.slice none 0 0) (.slice none 0 0)
 have b3:Below W2.heap.size W2 (W2.alloc (.cells #[.slice none 0 0,.int .i64 0,.int .i64 0,.slice none 0 0,.int .u32 0,.int .u32 0,.int .u32 0,.int .u32 0,.int .u32 0,.slice none 0 0,.slice none 0 0] 31)):=(Below.refl _ _).alloc (Nat.le_refl _) _
 have h3':BoxU (W2.alloc (.cells #[.slice none 0 0,.int .i64 0,.int .i64 0,.slice none 0 0,.int .u32 0,.int .u32 0,.int .u32 0,.int .u32 0,.int .u32 0,.slice none 0 0,.slice none 0 0] 31)) (w.heap.size+1+1) 31 zeroA (.slice none 0 0) (.slice none 0 0) (.slice none 0 0) (.slice none 0 0):=by rw [← e2];exact h3
 exact ⟨(RdU.mk (h1'.keep b2) h2 (b1.trans (b2.mono b1.size))).below b3,h3'⟩
end Upd
namespace Upd
open Go.RowKit Mem Segm Oct Att Seg PR
theorem numU (v:Value) (l:List Nat) (w:World) (hv:U8s w v l) (hl:l.length≤4):Calls Tryz.prog 95 #[v] w (fun e w'=>e=.returned (.int .u32 (val l))∧w'=w):=by
 obtain ⟨A,c,rfl,hlc,hc⟩:=hv.form
 have HU:=hid hv
 clear hv
 go_enter Tryz.func95,Tryz.ntmps95
 go_wp2
 go_loopw [3,4] (fun v3 v4 wx=>∃ j:Nat,j≤l.length∧v4=.int .i64 j∧v3=.int .u32 (val (l.take j))∧wx=w) (fun _ v4 _=>l.length - (intOf v4).toNat)
 case atStart=>exact ⟨0,Nat.zero_le _,rfl,rfl,rfl⟩
 case round =>
  obtain ⟨j,hj,rfl,rfl,rfl⟩:=hrel
  by_cases hlt:j<l.length
  ·obtain ⟨b,off,x,rfl,hbl,hx,hx2,hc⟩:=(HU.out).at_ hlt
   have z0:(0:Int)≤(j:Int):=by omega
   have z1:(j:Int)<(l.length:Int):=by omega
   have hv:=val_lt j HU.out.2
   have hv2:=Nat.lt_of_lt_of_le hv (pow_le (show j≤3 by omega))
   have HV:=hid (val_take hx)
   clear hv hx
   generalize val (l.take j)=V at hv2 HV ⊢
   go_wp2
   go_roundw
   case rel=>exact ⟨j+1,hlt,by go_num,by rw [HV.out];go_num,trivial⟩
   case measure=>simp [intOf];omega
  ·obtain rfl:j=l.length:=by omega
   go_wp2
   go_ret
   rw [List.take_length]
   exact ⟨rfl,rfl⟩
theorem rdec_short (v:Value) (b:List Nat) (w:World) (hv:U8s w v b) (hl:b.length<2):Calls Tryz.prog 51 #[v] w (DecU b w):=by
 have D0:=hid (rdv_start w)
 have CN:=hid rno10_any
 obtain ⟨Ab,cb,rfl,hlc,hcc⟩:=hv.form
 have HD:=hid (show decU b=.inl ⟨3,(1:Nat),[]⟩ from if_pos hl)
 have z1:(b.length:Int)<2:=by omega
 clear hv hl hlc hcc
 go_enter Tryz.func51,Tryz.ntmps51
 go_wp2_with (first
  | (go_at_call 96;(refine (CN.out _ _ _ _ _).mono ?_;rintro e z ⟨rfl,hb⟩;have SZ:=hid (D0.out.rd.below hb);clear hb))
  | (have h:=SZ.out;refine wpList_store_row rfl 31 (.tmp 2) (.tmp 15) rfl w.heap.size _ rfl rfl _ _ h.ru.blk (by kernel_rfl) rfl (by simp [Value.oneCell']) ?_;clear h;have SM:=hid (SZ.out.mid #[.slice none 0 0,.int .i64 0,.int .i64 0,.slice none 0 0,.int .u32 0,.int .u32 0,.int .u32 0,.int .u32 0,.int .u32 0,.slice none 0 0,.slice none 0 0]))
  | (have h:=SM.out;refine wpList_store_row rfl 34 (.tmp 3) (.tmp 16) rfl (w.heap.size+1) _ rfl rfl _ _ h (by kernel_rfl) rfl (by simp [Value.oneCell']) ?_;clear h;clear SM))
 (try simp only [Exit.inBlock,Exit.then])
 obtain ⟨⟨r0,r1,r2,r3,r4,r5,r6,r7,r8,r9,r10⟩,t0,t1,t2⟩:=SZ.out.finZ (.int .i64 3) (.int .i64 1) (.slice none 0 0)
 unfold endZ at r0 r1 r2 r3 r4 r5 r6 r7 r8 r9 r10 t0 t1 t2
 refine bodyPost_ret (v:=.tuple #[.agg #[.slice none 0 0,.int .i64 0,.int .i64 0,.slice none 0 0,.int .u32 0,.int .u32 0,.int .u32 0,.int .u32 0,.int .u32 0,.slice none 0 0,.slice none 0 0],.agg #[.int .i64 3,.int .i64 1,.slice none 0 0]]) (by simp [results,Tryz.results51,go_sem,r0,r1,r2,r3,r4,r5,r6,r7,r8,r9,r10,t0,t1,t2]) rfl ?_
 exact SZ.out.bad0 (s:=1) HD.out rfl (by decide)
end Upd
namespace Upd
open Go.RowKit Mem Segm Oct Att Seg PR
def mid9 (W:World) (B:Nat) (a:At) (vp vc:Value):World:=(((((((((W.setCell ⟨B,1,none⟩ (.int .i64 a.has)).setCell ⟨B,2,none⟩ (.int .i64 a.origin)).setCell ⟨B,3,none⟩ vp).setCell ⟨B,4,none⟩ (.int .u32 a.hop)).setCell ⟨B,5,none⟩ (.int .u32 a.med)).setCell ⟨B,6,none⟩ (.int .u32 a.pref)).setCell ⟨B,7,none⟩ (.int .u32 a.aas)).setCell ⟨B,8,none⟩ (.int .u32 a.aid)).setCell ⟨B,9,none⟩ vc)
section
variable {n B:Nat} {w W:World} {t:TypeId} {a:At} {vg vp vc vh yp yc:Value}
theorem mid9_off (W:World) (B:Nat) (a:At) (vp vc:Value):Off B W (mid9 W B a vp vc):=((((((((((Off.refl B W).set 1 (.int .i64 a.has)).set 2 (.int .i64 a.origin)).set 3 vp).set 4 (.int .u32 a.hop)).set 5 (.int .u32 a.med)).set 6 (.int .u32 a.pref)).set 7 (.int .u32 a.aas)).set 8 (.int .u32 a.aid)).set 9 vc)
theorem mid9_low (h:Below n w W) (hB:n≤B) (a:At) (vp vc:Value):Below n w (mid9 W B a vp vc):=(((((((((h.setCell (p:=⟨B,1,none⟩) hB (.int .i64 a.has)).setCell (p:=⟨B,2,none⟩) hB (.int .i64 a.origin)).setCell (p:=⟨B,3,none⟩) hB vp).setCell (p:=⟨B,4,none⟩) hB (.int .u32 a.hop)).setCell (p:=⟨B,5,none⟩) hB (.int .u32 a.med)).setCell (p:=⟨B,6,none⟩) hB (.int .u32 a.pref)).setCell (p:=⟨B,7,none⟩) hB (.int .u32 a.aas)).setCell (p:=⟨B,8,none⟩) hB (.int .u32 a.aid)).setCell (p:=⟨B,9,none⟩) hB vc)
theorem mid9_box (h:BoxU W B t zeroA vg yp yc vh) (a:At) (vp vc:Value):BoxU (mid9 W B a vp vc) B t a vg vp vc vh :=
 ⟨(((((((((((⟨h.blk⟩:Box11 W B t vg (.int .i64 0) (.int .i64 0) yp (.int .u32 0) (.int .u32 0) (.int .u32 0) (.int .u32 0) (.int .u32 0) yc vh).set1 (.int .i64 a.has)).set2 (.int .i64 a.origin)).set3 vp).set4 (.int .u32 a.hop)).set5 (.int .u32 a.med)).set6 (.int .u32 a.pref)).set7 (.int .u32 a.aas)).set8 (.int .u32 a.aid)).set9 vc)).blk⟩
end
structure S27 (w:World) (L:List Pf) (A:Option Addr) (c:Nat) (a:At) (vp vc vh:Value) (B:Nat) (W:World):Prop where
 hB:w.heap.size+3≤B
 rd:RdU w W
 bu:BoxU W (w.heap.size+1+1) 31 zeroA (.slice A L.length c) (.slice none 0 0) (.slice none 0 0) vh
 own:W.ownsRow (w.heap.size+3) 67 2 (.slice A L.length c) L.length (pcells L)
 at_:AtF (w.heap.size+3) W (aV a vp vc) a
 b9:Box9 W B 29 (.int .i64 a.has) (.int .i64 a.origin) vp (.int .u32 a.hop) (.int .u32 a.med) (.int .u32 a.pref) (.int .u32 a.aas) (.int .u32 a.aid) vc
theorem s27_of {w W:World} {L:List Pf} {A:Option Addr} {c:Nat} {a:At} {n:No} {vp vc vd:Value} {B:Nat} (h:S16 w L A c a n vp vc vd B W) (vh:Value):S27 w L A c a vp vc vh B (W.setCell ⟨w.heap.size+1+1,10,none⟩ vh):=by
 have hB:=h.hB
 have ho:∀ k,k≠w.heap.size+1+1→(W.setCell ⟨w.heap.size+1+1,10,none⟩ vh).heap[k]?=W.heap[k]?:=fun k hk=>Go.RowKit.Below.heap_setCell _ _ _ _ hk
 exact ⟨hB,⟨h.rv.rd.ru.far (by omega) _,h.rv.rd.r3.far (by omega) _,h.rv.rd.low.setCell (p:=⟨w.heap.size+1+1,10,none⟩) (by show w.heap.size≤w.heap.size+1+1;omega) _⟩,
  ⟨((⟨h.rv.bu.blk⟩:Box11 W (w.heap.size+1+1) 31 (.slice A L.length c) (.int .i64 0) (.int .i64 0) (.slice none 0 0) (.int .u32 0) (.int .u32 0) (.int .u32 0) (.int .u32 0) (.int .u32 0) (.slice none 0 0) (.slice none 0 0)).set10 vh).blk⟩,
  own_off h.own (fun k hk=>ho k (by omega)),h.at_.off (fun k hk=>ho k (by omega)) (by simp),⟨(ho B (by omega)).trans h.b9.blk⟩⟩
theorem S27.mid {w W:World} {L:List Pf} {A:Option Addr} {c:Nat} {a:At} {vp vc vh:Value} {B:Nat} (h:S27 w L A c a vp vc vh B W) :
  RdU w (mid9 W (w.heap.size+1+1) a vp vc)∧BoxU (mid9 W (w.heap.size+1+1) a vp vc) (w.heap.size+1+1) 31 a (.slice A L.length c) vp vc vh∧(mid9 W (w.heap.size+1+1) a vp vc).ownsRow (w.heap.size+3) 67 2 (.slice A L.length c) L.length (pcells L)∧AtF (w.heap.size+3) (mid9 W (w.heap.size+1+1) a vp vc) (aV a vp vc) a:=by
 have ho:=mid9_off W (w.heap.size+1+1) a vp vc
 exact ⟨⟨h.rd.ru.below (fun k hk=>ho.1 k (by omega)),⟨(ho.1 (w.heap.size+1) (by omega)).trans h.rd.r3.blk⟩,mid9_low h.rd.low (by omega) a vp vc⟩,mid9_box h.bu a vp vc,own_off h.own (fun k hk=>ho.1 k (by omega)),h.at_.off (fun k hk=>ho.1 k (by omega)) ho.2⟩
theorem updR_of {n:Nat} {W:World} {L H:List Pf} {Ag Ah:Option Addr} {cg ch:Nat} {a:At} {vp vc:Value} (hg:W.ownsRow n 67 2 (.slice Ag L.length cg) L.length (pcells L)) (hok:Oks L) (ha:AtF n W (aV a vp vc) a) (hh:W.ownsRow n 67 2 (.slice Ah H.length ch) H.length (pcells H)) (hok2:Oks H) :
  UpdF n W (uV a (.slice Ag L.length cg) vp vc (.slice Ah H.length ch)) ⟨L,a,H⟩:=by
 obtain ⟨h1,vp',vc',h2,h3,h4,h5⟩:=ha
 simp only [aV,acells,Value.agg.injEq,List.toArray_eq_iff,List.cons.injEq,and_true,true_and] at h2
 obtain ⟨rfl,rfl⟩:=h2
 exact ⟨Ag,cg,vp,vc,Ah,ch,rfl,hg,hok,⟨h1,h3,h4,h5⟩,hh,hok2⟩
theorem well_first {h:Int} {j:Nat} (h1:1≤j) (h3:j≤3) (ha:∀ k:Nat,1≤k→k<j→hasB h (k:Int)=true) (hb:hasB h (j:Int)=false):wellB h=false∧wellN h=⟨3,3,[j]⟩:=by
 obtain ⟨i,rfl⟩:∃ i,j=i+1:=⟨j - 1,by omega⟩
 have hn:=well_step (h:=h) (j:=i) (by omega) (fun k k1 k2=>ha k k1 (by omega)) hb
 refine ⟨?_,hn⟩
 cases hw:wellB h with
 | false=>rfl
 | true=>rw [wellN_yes hw] at hn;cases hn
theorem well_last {h:Int} (ha:∀ k:Nat,1≤k→k<4→hasB h (k:Int)=true):wellB h=true:=by
 unfold wellB
 rw [show hasB h 1=true from ha 1 (by omega) (by omega),show hasB h 2=true from ha 2 (by omega) (by omega),show hasB h 3=true from ha 3 (by omega) (by omega)]
 rfl
end Upd
namespace Upd
open Go.RowKit Mem Segm Oct Att Seg PR
theorem rdec_long (v:Value) (b:List Nat) (w:World) (hv:U8s w v b) (hl:2≤b.length) (hl2:b.length≤1600):Calls Tryz.prog 51 #[v] w (DecU b w):=by
 have D0:=hid (rdv_start w)
 have CN:=hid rno10_any
 obtain ⟨A,cb,rfl,hlc,hcc⟩:=hv.form
 obtain ⟨blk,off,x0,rfl,hbl,hx0,hx0s,hc0⟩:=hv.at_ (k:=0) (by omega)
 have HU:=hid hv
 obtain ⟨n1,hn1⟩:∃ n1,n1=val (b.take 2):=⟨_,rfl⟩
 have h1s:n1<65536:=by rw [hn1];exact val_lt 2 hv.2
 have wn1:IntKind.i64.wrap (n1:Int)=(n1:Int):=IntWalk.i64_in _ (by omega)
 have CU:=hid (fun (W:World) (h:Below w.heap.size w W)=>show Calls Tryz.prog 95 #[.slice (some ⟨blk,off,none⟩) 2 cb] W (fun e w'=>e=.returned (.int .u32 n1)∧w'=W) from by rw [hn1];exact numU _ _ W ((show U8s w (.slice (some ⟨blk,off,none⟩) 2 cb) (b.take 2) from by simpa using mid_any hv (i:=0) (m:=2) (by omega)).keep h) (Nat.le_trans (List.length_take_le _ _) (by decide)))
 have HD0:=hid (show decU b=if b.length<2+n1 then .inl form1 else decU1 (dec val ((b.drop 2).take n1)) (b.drop (2+n1)) from by rw [hn1];exact if_neg (by omega))
 have z1:decide ((b.length:Int)<2)=false:=decide_eq_false (by omega)
 have z2:(2:Int)≤(cb:Int):=by omega
 clear hv hx0 hn1 hc0
 by_cases g1:b.length<2+n1
 focus
  have HD:=hid (show decU b=.inl ⟨3,(1:Nat),[]⟩ from by rw [HD0.out,if_pos g1];rfl)
  have z3:(b.length:Int)<2+(n1:Int):=by omega
  clear g1
  go_enter Tryz.func51,Tryz.ntmps51
  have RU:=hid D0.out.rd
 rotate_left
 have z3:decide ((b.length:Int)<2+(n1:Int))=false:=decide_eq_false (by omega)
 rw [if_neg g1] at HD0
 obtain ⟨G,hG⟩:∃ G,G=(b.drop 2).take n1:=⟨_,rfl⟩
 have HGL:=hid (show G.length=n1 from by rw [hG,List.length_take,List.length_drop];omega)
 rw [← hG] at HD0
 have HGE:=hid hG
 clear hG
 focus go_enter Tryz.func51,Tryz.ntmps51
 focus go_upto_region 7 with (go_at_call 95;(with_reducible refine (CU.out _ D0.out.rd.low).mono ?_);rintro e x ⟨rfl,rfl⟩)
 focus go_cut [5] (fun s5 wx=>Hid (St7 w G s5 wx))
 case first =>
  have e3:(((w.alloc (.cells #[.slice none 0 0,.int .i64 0,.int .i64 0,.slice none 0 0,.int .u32 0,.int .u32 0,.int .u32 0,.int .u32 0,.int .u32 0,.slice none 0 0,.slice none 0 0] 31)).alloc (.cells #[.int .i64 0,.int .i64 0,.slice none 0 0] 34)).alloc (.cells #[.slice none 0 0,.int .i64 0,.int .i64 0,.slice none 0 0,.int .u32 0,.int .u32 0,.int .u32 0,.int .u32 0,.int .u32 0,.slice none 0 0,.slice none 0 0] 31)).heap.size=w.heap.size+3:=by simp
  have E3:=hid e3
  clear e3
  by_cases hc:cb=2
  focus
   have hn0:n1=0:=by omega
   subst hc
   have CD:=hid (fun (W:World) (h:Below w.heap.size w W)=>(refDecode_any (.slice (some ⟨blk,off,none⟩) n1 0) G W ((show U8s w (.slice (some ⟨blk,off,none⟩) n1 0) G from by rw [HGE.out];have h3:=(HU.out.cut (k:=2) hl).prefix_ (k:=n1) (d:=0) (by rw [List.length_drop];omega) (by omega) (by unfold maxLen;omega);simpa using h3).keep h) (by have:=HGL.out;omega)).mono fun _ _ h=>out7_of h)
   clear hn0
  rotate_left
  focus
   have CD:=hid (fun (W:World) (h:Below w.heap.size w W)=>(refDecode_any (.slice (some ⟨blk,off+2,none⟩) n1 (cb - 2)) G W ((show U8s w (.slice (some ⟨blk,off+2,none⟩) n1 (cb - 2)) G from by rw [HGE.out];exact mid_any HU.out (by omega) (by omega)).keep h) (by have:=HGL.out;omega)).mono fun _ _ h=>out7_of h)
  all_goals
   go_wp2_with (go_at_call 97;(with_reducible refine (CD.out _ D0.out.rd.low).mono ?_);rintro e x ⟨Ag,ng,cg,sg,rfl,ho,hb⟩;have SV:=hid (D0.out.below hb);have ST7:=hid (show St7 w G (.bool sg) (x.setCell ⟨w.heap.size+1+1,0,none⟩ (.slice Ag ng cg)) from ⟨Ag,ng,cg,sg,rfl,(by rw [E3.out] at ho;exact ho.off (n:=w.heap.size+3) (Nat.le_refl _) (fun k hk=>Go.RowKit.Below.heap_setCell _ _ _ _ (by show k≠w.heap.size+1+1;omega))),SV.out.set _⟩);obtain ⟨c0,-⟩:=zcells SV.out.bu;have fr:=SV.out.bu.free;clear ho hb CD E3)
   go_meet
   exact ST7
 have h7:=hcut.out
 obtain ⟨Ag,ng,cg,sg,rfl,HO,hST⟩:=h7
 have ST:=hid hST
 clear CU D0 hcut hST z1 z2 z3 wn1
 rcases HO with ⟨hd,rfl⟩ | ⟨L,A2,c2,hd,rfl,hv,hown,hok⟩
 focus
  have HD:=hid (show decU b=.inl ⟨3,(1:Nat),[]⟩ from by rw [HD0.out,hd];rfl)
  clear hd
  have RU:=hid ST.out.rd
 rotate_left
 injection hv with hv1 hv2 hv3
 subst hv1 hv2 hv3
 have HL:=hid (And.intro hown hok)
 obtain ⟨n2,hn2⟩:∃ n2,n2=2+n1:=⟨_,rfl⟩
 obtain ⟨C,hC⟩:∃ C,C=b.drop n2:=⟨_,rfl⟩
 have hCl:C.length=b.length - n2:=by rw [hC,List.length_drop]
 have HD1:=hid (show decU b=decU1 (some L) C from by rw [HD0.out,hd,hC,hn2])
 obtain ⟨Ac,hAc⟩:∃ Ac,Ac=(if cb=n2 then some (⟨blk,off,none⟩:Addr) else some ⟨blk,off+n2,none⟩):=⟨_,rfl⟩
 have UC:=hid (show U8s w (.slice Ac C.length (cb - n2)) C from by
  have h3:=HU.out.cut (k:=n2) (by omega)
  rw [hC,hAc,List.length_drop]
  by_cases hc:cb=n2
  ·simpa [hc] using h3
  ·have:n2≠0:=by omega
   simpa [hc,Addr.add,this] using h3)
 have z7:IntKind.i64.wrap ((2:Int)+(n1:Int))=(n2:Int):=by rw [IntWalk.i64_in _ (by omega)];omega
 have z8:(n2:Int)≤(b.length:Int):=by omega
 have z9:(n2:Int)≤(cb:Int):=by omega
 have HN2:=hid hn2
 clear hd hown hok hC HD0 HGL HGE hn2
 focus go_upto_region 10 with fail
 focus go_cut [0] (fun s0 wx=>s0=.slice Ac C.length (cb - n2)∧wx=wc)
 case first =>
  by_cases hc:cb=n2
  ·subst hc
   go_wp2
   go_meet
   exact ⟨by rw [hAc,if_pos trivial,show C.length=0 from by omega,Nat.sub_self],rfl⟩
  ·go_wp2
   go_meet
   exact ⟨by rw [hAc,if_neg hc,hCl],rfl⟩
 obtain ⟨rfl,rfl⟩:=hcut
 obtain ⟨cc,hcc2⟩:∃ cc,cc=cb - n2:=⟨_,rfl⟩
 rw [← hcc2] at UC ⊢
 have hcl2:cc≤9223372036854775807:=by omega
 have hcl3:C.length≤1600:=by omega
 have hcl4:C.length≤cc:=by omega
 have HC:=hid (And.intro hCl (And.intro hAc hcc2))
 clear z7 z8 z9 hlc hcc hAc hCl hcc2 HU h1s
 by_cases k1:C.length<2
 focus
  have HD:=hid (show decU b=.inl ⟨3,(1:Nat),[]⟩ from by rw [HD1.out];exact if_pos k1)
  have z1:(C.length:Int)<2:=by omega
  clear k1
  have RU:=hid ST.out.rd
 rotate_left
 obtain ⟨bk,of,y0,rfl,hbk,hy0,hy0s,hcy⟩:=UC.out.at_ (k:=0) (by omega)
 obtain ⟨n3,hn3⟩:∃ n3,n3=val (C.take 2):=⟨_,rfl⟩
 have h3s:n3<65536:=by rw [hn3];exact val_lt 2 UC.out.2
 have wn3:IntKind.i64.wrap (n3:Int)=(n3:Int):=IntWalk.i64_in _ (by omega)
 have CU:=hid (fun (W:World) (h:Below w.heap.size w W)=>show Calls Tryz.prog 95 #[.slice (some ⟨bk,of,none⟩) 2 cc] W (fun e w'=>e=.returned (.int .u32 n3)∧w'=W) from by rw [hn3];exact numU _ _ W ((show U8s w (.slice (some ⟨bk,of,none⟩) 2 cc) (C.take 2) from by simpa using mid_any UC.out (i:=0) (m:=2) (by omega)).keep h) (Nat.le_trans (List.length_take_le _ _) (by decide)))
 have HD2:=hid (show decU b=if C.length<2+n3 then .inl form1 else decU2 L (decodeA ((C.drop 2).take n3)) (C.drop (2+n3)) from by rw [HD1.out,hn3];exact if_neg k1)
 have z1:decide ((C.length:Int)<2)=false:=decide_eq_false (by omega)
 have z2:(2:Int)≤(cc:Int):=by omega
 clear hn3 hcy HD1 k1 hy0
 by_cases g3:C.length<2+n3
 focus
  have HD:=hid (show decU b=.inl ⟨3,(1:Nat),[]⟩ from by rw [HD2.out,if_pos g3];rfl)
  have z3:(C.length:Int)<2+(n3:Int):=by omega
  clear g3
  have RU:=hid ST.out.rd
 rotate_left
 have z3:decide ((C.length:Int)<2+(n3:Int))=false:=decide_eq_false (by omega)
 rw [if_neg g3] at HD2
 obtain ⟨R,hR⟩:∃ R,R=(C.drop 2).take n3:=⟨_,rfl⟩
 have HRL:=hid (show R.length=n3 from by rw [hR,List.length_take,List.length_drop];omega)
 rw [← hR] at HD2
 have HRE:=hid hR
 clear hR
 focus go_upto_region 16 with (go_at_call 95;(with_reducible refine (CU.out _ ST.out.rd.low).mono ?_);rintro e wd ⟨rfl,rfl⟩)
 obtain ⟨ho1,ho2⟩:=HL.out
 have e3:w.heap.size+3≤wd.heap.size:=by have:=ST.out.bu.lt;omega
 have E3:=hid e3
 have HO1:=hid ho1
 have HO2:=hid ho2
 clear e3 ho1 ho2 HL CU
 focus go_cut [7,8] (fun s7 s8 wx=>∃ (B:Nat) (a:At) (n:No) (Ap:Option Addr) (np cp:Nat) (Ac:Option Addr) (nc c3:Nat) (Ad:Option Addr) (nd cd:Nat),s7=.pointer (some ⟨B,0,none⟩)∧s8=.pointer (some ⟨B+1,0,none⟩)∧Hid (a=(outA (decodeA R)).1∧n=(outA (decodeA R)).2)∧Hid (S16 w L Ag cg a n (.slice Ap np cp) (.slice Ac nc c3) (.slice Ad nd cd) B wx))
 case first =>
  by_cases hc:cc=2
  focus
   have hn0:n3=0:=by omega
   subst hc
   have CD:=hid (fun (W:World) (h:Below w.heap.size w W)=>(decode_rg (.slice (some ⟨bk,of,none⟩) n3 0) R W ((show U8s w (.slice (some ⟨bk,of,none⟩) n3 0) R from by rw [HRE.out];have h3:=(UC.out.cut (k:=2) (by omega)).prefix_ (k:=n3) (d:=0) (by rw [List.length_drop];omega) (by omega) (by unfold maxLen;omega);simpa using h3).keep h) (by have:=HRL.out;omega)).mono fun _ _ h=>dec16_of h)
   clear hn0
  rotate_left
  focus
   have CD:=hid (fun (W:World) (h:Below w.heap.size w W)=>(decode_rg (.slice (some ⟨bk,of+2,none⟩) n3 (cc - 2)) R W ((show U8s w (.slice (some ⟨bk,of+2,none⟩) n3 (cc - 2)) R from by rw [HRE.out];exact mid_any UC.out (by omega) (by omega)).keep h) (by have:=HRL.out;omega)).mono fun _ _ h=>dec16_of h)
  all_goals
   go_wp2_with (first
    | (go_at_call 98;(with_reducible refine (CD.out _ ST.out.rd.low).mono ?_);rintro e x ⟨a,n,Ap,np,cp,Ac,nc,c3,Ad,nd,cd,ha,hn,rfl,h1,h2,hb⟩;have S:=hid (s16_start (Nat.le_trans E3.out hb.size) (ST.out.below hb) (own_keep HO1.out hb) (atF_lower h1 E3.out) h2);have HE:=hid (And.intro ha hn);have K9:=hid (new16_9 x);have K3:=hid (new16_3 x #[.int .i64 a.has,.int .i64 a.origin,.slice Ap np cp,.int .u32 a.hop,.int .u32 a.med,.int .u32 a.pref,.int .u32 a.aas,.int .u32 a.aid,.slice Ac nc c3]);unfold new16 at S K9 K3;unfold aV;clear ha hn h1 h2 hb CD)
    | (have h:=K9.out;refine wpList_store_row rfl 29 (.tmp 7) (.tmp 71) rfl x.heap.size _ rfl rfl _ _ h (by kernel_rfl) rfl (by simp [Value.oneCell']) ?_;clear h;clear K9)
    | (have h:=K3.out;refine wpList_store_row rfl 34 (.tmp 8) (.tmp 72) rfl (x.heap.size+1) _ rfl rfl _ _ h (by kernel_rfl) rfl (by simp [Value.oneCell']) ?_;clear h;clear K3))
   go_meet
   exact ⟨_,_,_,_,_,_,_,_,_,_,_,_,rfl,rfl,HE,S⟩
 obtain ⟨B,a,n,Ap,np,cp,Ac,nc,c3,Ad,nd,cd,rfl,rfl,HE,S⟩:=hcut
 clear HO1 ST E3 z1 z2 z3 wn3 HRL HRE
 obtain ⟨q0,q1,q2⟩:=S.out.b3.cells
 rcases hr:decodeA R with m | m
 ·obtain ⟨ha,hn⟩:=HE.out
  rw [hr] at ha hn
  replace hn:n=m:=hn
  subst hn
  have hcode:n.code=3:=decA_code _ _ _ _ _ hr
  have HD:=hid (show decU b=.inl n from by rw [HD2.out,hr];rfl)
  have y1:((n.code:Int) != 0)=true:=by rw [hcode];rfl
  clear ha hr HE hcode
  have hwB:w.heap.size+3≤B:=S.out.hB
  have p0:=(cell_setRow_other wc.drew w.heap.size #[.slice none 0 0,.int .i64 0,.int .i64 0,.slice none 0 0,.int .u32 0,.int .u32 0,.int .u32 0,.int .u32 0,.int .u32 0,.slice none 0 0,.slice none 0 0] ⟨B+1,0,none⟩ (by show B+1≠w.heap.size;omega)).trans q0
  have p1:=(cell_setRow_other wc.drew w.heap.size #[.slice none 0 0,.int .i64 0,.int .i64 0,.slice none 0 0,.int .u32 0,.int .u32 0,.int .u32 0,.int .u32 0,.int .u32 0,.slice none 0 0,.slice none 0 0] ⟨B+1,1,none⟩ (by show B+1≠w.heap.size;omega)).trans q1
  have p2:=(cell_setRow_other wc.drew w.heap.size #[.slice none 0 0,.int .i64 0,.int .i64 0,.slice none 0 0,.int .u32 0,.int .u32 0,.int .u32 0,.int .u32 0,.int .u32 0,.slice none 0 0,.slice none 0 0] ⟨B+1,2,none⟩ (by show B+1≠w.heap.size;omega)).trans q2
  have KU:=hid (show wc.drew.heap[w.heap.size]?=some (.cells #[.slice none 0 0,.int .i64 0,.int .i64 0,.slice none 0 0,.int .u32 0,.int .u32 0,.int .u32 0,.int .u32 0,.int .u32 0,.slice none 0 0,.slice none 0 0] 31 (0,0)) from S.out.rv.rd.ru.blk)
  have KN:=hid (show (wc.drew.setRow w.heap.size #[.slice none 0 0,.int .i64 0,.int .i64 0,.slice none 0 0,.int .u32 0,.int .u32 0,.int .u32 0,.int .u32 0,.int .u32 0,.slice none 0 0,.slice none 0 0]).heap[w.heap.size+1]?=some (.cells #[.int .i64 0,.int .i64 0,.slice none 0 0] 34 (0,0)) from (setRow_other wc.drew w.heap.size (w.heap.size+1) _ (by omega)).trans S.out.rv.rd.r3.blk)
  go_upto_region 18 with fail
  go_cut [] (fun wx=>wx=endZ w wc.drew (.int .i64 n.code) (.int .i64 n.sub) (.slice Ad nd cd))
  case first =>
   refine wp_region_any (by kernel_rfl) ?_
   change wpAny _ _ _ _ _ _ _ (World.drew _)
   refine wpAny_take (i:=0) rfl (by kernel_rfl) (by kernel_rfl) (by kernel_rfl) (fun _ _ _ h=>h) (Or.inl ⟨by rfl,by intro w;go_simp;try with_reducible rfl⟩) ?_
   refine wpAny_ready (rs:=[1,2]) (by kernel_rfl) (by simp) ?_
   refine AllReady.cons rfl (fun K hK=>?_) (AllReady.cons rfl (fun K hK=>?_) AllReady.nil)
   focus
    go_simp
    refine hK _ _ ?_
    clear hK K
    refine wpAny_ready (rs:=[2]) (by kernel_rfl) (by simp) ?_
    refine AllReady.cons rfl (fun K hK=>?_) AllReady.nil
    rw [if_pos (by rfl)]
    refine wp_store_row 31 (.tmp 2) (.tmp 76) rfl w.heap.size _ rfl rfl _ _ KU.out (by kernel_rfl) rfl (by simp [Value.oneCell']) ?_
   rotate_left
   focus
    rw [if_pos (by rfl)]
    refine wp_store_row 31 (.tmp 2) (.tmp 76) rfl w.heap.size _ rfl rfl _ _ KU.out (by kernel_rfl) rfl (by simp [Value.oneCell']) ?_
    refine hK _ _ ?_
    clear hK K
    refine wpAny_ready (rs:=[1]) (by kernel_rfl) (by simp) ?_
    refine AllReady.cons rfl (fun K hK=>?_) AllReady.nil
    go_simp
   all_goals
    refine hK _ _ ?_
    clear hK K
    refine wpAny_ready (rs:=[3]) (by kernel_rfl) (by simp) ?_
    refine AllReady.cons rfl (fun K hK=>?_) AllReady.nil
    rw [if_pos (by rfl)]
    refine wp_store_row 34 (.tmp 3) (.tmp 77) rfl (w.heap.size+1) _ rfl rfl _ _ KN.out (by kernel_rfl) rfl (by simp [Value.oneCell']) ?_
    refine hK _ _ ?_
    clear hK K
    refine wpAny_done (by kernel_rfl) ?_ _
    go_wp2_with fail
    go_meet
    rfl
  case rest =>
  subst hcut
  have RD:=hid (S.out.rv.rd.below (Below.refl _ wc).drew)
  have NO:=hid (S.out.no.keep (Below.refl _ wc).drew)
  obtain ⟨⟨r0,r1,r2,r3,r4,r5,r6,r7,r8,r9,r10⟩,t0,t1,t2⟩:=RD.out.finZ (.int .i64 n.code) (.int .i64 n.sub) (.slice Ad nd cd)
  clear KU KN p0 p1 p2 q0 q1 q2 S y1
  have HEV:=hid (RD.out.badN HD.out NO.out)
  generalize endZ w wc.drew (.int .i64 n.code) (.int .i64 n.sub) (.slice Ad nd cd)=WE at r0 r1 r2 r3 r4 r5 r6 r7 r8 r9 r10 t0 t1 t2 HEV ⊢
  go_wp2_with fail
  (try simp only [Exit.inBlock,Exit.then])
  refine bodyPost_ret (by simp [results,Tryz.results51,go_sem,r0,r1,r2,r3,r4,r5,r6,r7,r8,r9,r10,t0,t1,t2]) rfl HEV.out
 obtain ⟨ha,hn⟩:=HE.out
 rw [hr] at ha hn
 replace hn:n=⟨0,0,[]⟩:=hn
 replace ha:a=m:=ha
 subst ha hn
 obtain ⟨n4,hn4⟩:∃ n4,n4=2+n3:=⟨_,rfl⟩
 obtain ⟨D,hD⟩:∃ D,D=C.drop n4:=⟨_,rfl⟩
 have hDl:D.length=C.length - n4:=by rw [hD,List.length_drop]
 have HD3:=hid (show decU b=decU3 L a D from by rw [HD2.out,hr,hD,hn4];rfl)
 obtain ⟨Ae,hAe⟩:∃ Ae,Ae=(if cc=n4 then some (⟨bk,of,none⟩:Addr) else some ⟨bk,of+n4,none⟩):=⟨_,rfl⟩
 have UD:=hid (show U8s w (.slice Ae D.length (cc - n4)) D from by
  have h3:=UC.out.cut (k:=n4) (by omega)
  rw [hD,hAe,List.length_drop]
  by_cases hc:cc=n4
  ·simpa [hc] using h3
  ·have:n4≠0:=by omega
   simpa [hc,Addr.add,this] using h3)
 have z7:IntKind.i64.wrap ((2:Int)+(n3:Int))=(n4:Int):=by rw [IntWalk.i64_in _ (by omega)];omega
 have z8:(n4:Int)≤(C.length:Int):=by omega
 have z9:(n4:Int)≤(cc:Int):=by omega
 have HN4:=hid hn4
 replace q0:wc.cell? ⟨B+1,0,none⟩=some (.int .i64 0):=q0
 clear hr HE HD2 q1 q2 hD hn4
 focus go_upto_region 19 with fail
 clear q0
 focus go_cut [0] (fun s0 wx=>s0=.slice Ae D.length (cc - n4)∧wx=wc)
 case first =>
  by_cases hc:cc=n4
  ·subst hc
   go_wp2
   go_meet
   exact ⟨by rw [hAe,if_pos trivial,show D.length=0 from by omega,Nat.sub_self],rfl⟩
  ·go_wp2
   go_meet
   exact ⟨by rw [hAe,if_neg hc,hDl],rfl⟩
 obtain ⟨rfl,rfl⟩:=hcut
 clear z7 z8 z9 hAe UC
 by_cases k2:D.length=0
 ·have y2:((D.length:Int) == 0)=true:=by rw [k2];rfl
  have HD:=hid (show decU b=.inr ⟨L,zeroA,[]⟩ from by rw [HD3.out];exact if_pos (List.eq_nil_of_length_eq_zero k2))
  obtain ⟨f0,f1,f2,f3,f4,f5,f6,f7,f8,f9,f10⟩:=zcells S.out.rv.bu
  have HEV:=hid (S.out.rv.ok0 S.out.own HO2.out HD.out)
  have KU:=hid S.out.rv.rd.ru.blk
  have KN:=hid (S.out.rv.rd.mid #[.slice Ag L.length cg,.int .i64 0,.int .i64 0,.slice none 0 0,.int .u32 0,.int .u32 0,.int .u32 0,.int .u32 0,.int .u32 0,.slice none 0 0,.slice none 0 0])
  clear k2
  go_wp2_with (first
   | (have h:=KU.out;refine wpList_store_row rfl 31 (.tmp 2) (.tmp 85) rfl w.heap.size _ rfl rfl _ _ h (by kernel_rfl) rfl (by simp [Value.oneCell']) ?_;clear h;clear KU f0 f1 f2 f3 f4 f5 f6 f7 f8 f9 f10)
   | (have h:=KN.out;refine wpList_store_row rfl 34 (.tmp 3) (.tmp 86) rfl (w.heap.size+1) _ rfl rfl _ _ h (by kernel_rfl) rfl (by simp [Value.oneCell']) ?_;clear h;clear KN))
  (try simp only [Exit.inBlock,Exit.then])
  obtain ⟨k1,k2,-⟩:=S.out.rv.rd.fin zeroA (.slice Ag L.length cg) (.slice none 0 0) (.slice none 0 0) (.slice none 0 0) (.int .i64 0) (.int .i64 0) (.slice none 0 0)
  obtain ⟨r0,r1,r2,r3,r4,r5,r6,r7,r8,r9,r10⟩:=zcells k1
  obtain ⟨t0,t1,t2⟩:=k2.cells
  clear k1 k2
  change bodyPost _ _ _ _ _ (endU w wc zeroA (.slice Ag L.length cg) (.slice none 0 0) (.slice none 0 0) (.slice none 0 0) (.int .i64 0) (.int .i64 0) (.slice none 0 0))
  generalize endU w wc zeroA (.slice Ag L.length cg) (.slice none 0 0) (.slice none 0 0) (.slice none 0 0) (.int .i64 0) (.int .i64 0) (.slice none 0 0)=WE at r0 r1 r2 r3 r4 r5 r6 r7 r8 r9 r10 t0 t1 t2 HEV ⊢
  refine bodyPost_ret (by simp [results,Tryz.results51,go_sem,r0,r1,r2,r3,r4,r5,r6,r7,r8,r9,r10,t0,t1,t2]) rfl HEV.out
 have y2:((D.length:Int) == 0)=false:=by rw [beq_eq_false_iff_ne];omega
 have hd16:D.length≤1600:=by omega
 clear hDl
 focus go_wp2_with fail
 focus go_loopw [9] (fun v9 wx=>∃ j:Nat,v9=.int .i64 j∧Hid (1≤j∧j≤4∧∀ k:Nat,1≤k→k<j→hasB a.has k=true)∧Hid (S16 w L Ag cg a ⟨0,0,[]⟩ (.slice Ap np cp) (.slice Ac nc c3) (.slice Ad nd cd) B wx)) (fun v9 _=>4 - (intOf v9).toNat)
 case atStart=>exact ⟨1,rfl,hid ⟨Nat.le_refl _,by decide,fun k h1 h2=>by omega⟩,S⟩
 case round =>
  clear S y2
  obtain ⟨j,rfl,HI,S⟩:=hrel
  have hj1:=HI.out.1
  have hj4:=HI.out.2.1
  obtain ⟨d0,d1,d2,d3,d4,d5,d6,d7,d8⟩:=S.out.b9.cells
  by_cases hlt:j≤3
  ·have z1:(j:Int)≤3:=by omega
   cases hh:hasB a.has (j:Int) with
   | true =>
    have CH:=hid (fun W:World=>show Calls Tryz.prog 73 #[.agg #[.int .i64 a.has,.int .i64 a.origin,.slice Ap np cp,.int .u32 a.hop,.int .u32 a.med,.int .u32 a.pref,.int .u32 a.aas,.int .u32 a.aid,.slice Ac nc c3],.int .i64 j] W (Tells (.bool true) W) from by rw [← hh];exact refHas8 _ _ _ _ _ _ _ _ _ _ W)
    have HH:=hid hh
    clear hh
    go_wp2_with (go_at_call 73;refine (CH.out _).mono ?_;rintro e x ⟨rfl,hb⟩;have S3:=hid (S.out.below hb);clear hb)
    go_roundw
    case rel=>exact ⟨j+1,by go_num,hid ⟨by omega,by omega,fun k h1 h2=>if h:k=j then by rw [h];exact HH.out else HI.out.2.2 k h1 (by omega)⟩,S3⟩
    case measure=>simp [intOf];omega
   | false =>
    have HW:=hid (well_first hj1 hlt HI.out.2.2 hh)
    have HD:=hid (show decU b=.inl ⟨3,3,[j]⟩ from by rw [HD3.out];unfold decU3;rw [if_neg (fun e=>k2 (by rw [e];rfl)),if_pos HW.out.1,HW.out.2])
    have w8:IntKind.u8.wrap (j:Int)=(j:Int):=by rw [IntKind.wrap_u8];omega
    have HJ:=hid (show Small [j] from fun x hx=>by simp only [List.mem_singleton] at hx;subst hx;omega)
    have CH:=hid (fun W:World=>show Calls Tryz.prog 73 #[.agg #[.int .i64 a.has,.int .i64 a.origin,.slice Ap np cp,.int .u32 a.hop,.int .u32 a.med,.int .u32 a.pref,.int .u32 a.aas,.int .u32 a.aid,.slice Ac nc c3],.int .i64 j] W (Tells (.bool false) W) from by rw [← hh];exact refHas8 _ _ _ _ _ _ _ _ _ _ W)
    clear hh hj1 hj4 hlt HI HW
    go_wp2_with (first
     | (go_at_call 73;refine (CH.out _).mono ?_;rintro e x ⟨rfl,hb⟩;have S3:=hid (S.out.below hb);clear hb)
     | (go_at_call 96;refine (CN.out _ _ _ _ _).mono ?_;rintro e z ⟨rfl,hb⟩;have hba:Below x.heap.size x (x.alloc (.cells #[.int .u8 j] 5)):=(Below.refl _ _).alloc (Nat.le_refl _) _;have SZ:=hid ((S3.out.below hba).below hb).rv.rd;have NZ:=hid ((show Note (x.alloc (.cells #[.int .u8 j] 5)) (.agg #[.int .i64 3,.int .i64 3,.slice (some ⟨x.heap.size,0,none⟩) 1 1]) ⟨3,3,[j]⟩ from ⟨(show (Lit.int .i64 3).wf=true by decide),(show (Lit.int .i64 3).wf=true by decide),_,rfl,lit8 x [j] #[.int .u8 j] 1 HJ.out rfl rfl (by decide)⟩).keep hb);clear hb hba)
     | (have h:=SZ.out;refine wpList_store_row rfl 31 (.tmp 2) (.tmp 99) rfl w.heap.size _ rfl rfl _ _ h.ru.blk (by kernel_rfl) rfl (by simp [Value.oneCell']) ?_;clear h;have SM:=hid (SZ.out.mid #[.slice none 0 0,.int .i64 0,.int .i64 0,.slice none 0 0,.int .u32 0,.int .u32 0,.int .u32 0,.int .u32 0,.int .u32 0,.slice none 0 0,.slice none 0 0]))
     | (have h:=SM.out;refine wpList_store_row rfl 34 (.tmp 3) (.tmp 100) rfl (w.heap.size+1) _ rfl rfl _ _ h (by kernel_rfl) rfl (by simp [Value.oneCell']) ?_;clear h;clear SM))
    (try simp only [Exit.inBlock,Exit.then])
    obtain ⟨⟨r0,r1,r2,r3,r4,r5,r6,r7,r8,r9,r10⟩,t0,t1,t2⟩:=SZ.out.finZ (.int .i64 3) (.int .i64 3) (.slice (some ⟨x.heap.size,0,none⟩) 1 1)
    unfold endZ at r0 r1 r2 r3 r4 r5 r6 r7 r8 r9 r10 t0 t1 t2
    refine bodyPost_ret (by simp [results,Tryz.results51,go_sem,r0,r1,r2,r3,r4,r5,r6,r7,r8,r9,r10,t0,t1,t2]) rfl (SZ.out.badN (n:=⟨3,3,[j]⟩) HD.out NZ.out)
  ·obtain rfl:j=4:=by omega
   have z1:decide (((4:Nat):Int)≤3)=false:=by decide
   have HWL:=hid (well_last HI.out.2.2)
   have HD4:=hid (show decU b=(match dec val D with | none=>.inl ⟨3,10,[]⟩ | some h=>.inr ⟨L,a,h⟩) from by rw [HD3.out];unfold decU3;rw [if_neg (fun e=>k2 (by rw [e];rfl)),if_neg (by rw [HWL.out];decide)];cases dec val D <;> rfl)
   have CD:=hid (fun W (h:Below w.heap.size w W)=>(refDecode_any _ D W (UD.out.keep h) (by omega)).mono fun _ _ h=>out7_of h)
   have hsz:=(And.intro S.out.hB S.out.b9.lt)
   have HSZ:=hid (show w.heap.size+3≤wr.heap.size from by omega)
   clear HD3 HI HWL hj1 hj4 hlt d0 d1 d2 d3 d4 d5 d6 d7 d8 hsz k2
   go_upto_region 28 with (go_at_call 97;(with_reducible refine (CD.out _ S.out.rv.rd.low).mono ?_);rintro e x ⟨Ah,nh,ch,sh,rfl,ho,hb⟩;have SV:=hid (S.out.below hb);have S7:=hid (s27_of SV.out (.slice Ah nh ch));have OH:=hid (ho.off (W2:=x.setCell ⟨w.heap.size+1+1,10,none⟩ (.slice Ah nh ch)) (n:=w.heap.size+3) HSZ.out (fun k hk=>Go.RowKit.Below.heap_setCell _ _ _ _ (by show k≠w.heap.size+1+1;omega)));obtain ⟨-,-,-,-,-,-,-,-,-,-,c10⟩:=zcells SV.out.rv.bu;have fr:=SV.out.rv.bu.free;clear ho hb CD S SV)
   clear c10 fr
   rcases OH.out with ⟨hd,rfl⟩ | ⟨H,Ah2,ch2,hd,rfl,hvh,hown,hokh⟩
   ·have HD:=hid (show decU b=.inl ⟨3,(10:Nat),[]⟩ from by rw [HD4.out,hd];rfl)
    clear hd OH
    go_wp2_with (first
     | (go_at_call 96;refine (CN.out _ _ _ _ _).mono ?_;rintro e z ⟨rfl,hb⟩;have SZ:=hid (S7.out.rd.below hb);clear hb)
     | (have h:=SZ.out;refine wpList_store_row rfl 31 (.tmp 2) (.tmp 110) rfl w.heap.size _ rfl rfl _ _ h.ru.blk (by kernel_rfl) rfl (by simp [Value.oneCell']) ?_;clear h;have SM:=hid (SZ.out.mid #[.slice none 0 0,.int .i64 0,.int .i64 0,.slice none 0 0,.int .u32 0,.int .u32 0,.int .u32 0,.int .u32 0,.int .u32 0,.slice none 0 0,.slice none 0 0]))
     | (have h:=SM.out;refine wpList_store_row rfl 34 (.tmp 3) (.tmp 111) rfl (w.heap.size+1) _ rfl rfl _ _ h (by kernel_rfl) rfl (by simp [Value.oneCell']) ?_;clear h;clear SM))
    (try simp only [Exit.inBlock,Exit.then])
    obtain ⟨⟨r0,r1,r2,r3,r4,r5,r6,r7,r8,r9,r10⟩,t0,t1,t2⟩:=SZ.out.finZ (.int .i64 3) (.int .i64 10) (.slice none 0 0)
    unfold endZ at r0 r1 r2 r3 r4 r5 r6 r7 r8 r9 r10 t0 t1 t2
    refine bodyPost_ret (by simp [results,Tryz.results51,go_sem,r0,r1,r2,r3,r4,r5,r6,r7,r8,r9,r10,t0,t1,t2]) rfl (SZ.out.bad0 (s:=10) HD.out rfl (by decide))
   injection hvh with hv1 hv2 hv3
   subst hv1 hv2 hv3
   have HD:=hid (show decU b=.inr ⟨L,a,H⟩ from by rw [HD4.out,hd])
   have HH:=hid (And.intro (own_base hown HSZ.out) hokh)
   clear hd OH hown hokh HD4 HSZ
   go_upto_region 30 with fail
   obtain ⟨d0,d1,d2,d3,d4,d5,d6,d7,d8⟩:=S7.out.b9.cells
   obtain ⟨e0,e1,e2,e3,e4,e5,e6,e7,e8,e9,e10⟩:=zcells S7.out.bu
   have fr:=S7.out.bu.free
   go_cut [] (fun wx=>wx=mid9 (x.setCell ⟨w.heap.size+1+1,10,none⟩ (.slice Ah H.length ch)) (w.heap.size+1+1) a (.slice Ap np cp) (.slice Ac nc c3))
   case first =>
    go_wp2
    go_meet
    rfl
   case rest =>
   subst hcut
   clear d0 d1 d2 d3 d4 d5 d6 d7 d8 e0 e1 e2 e3 e4 e5 e6 e7 e8 e9 e10 fr
   have hoff:=mid9_off (x.setCell ⟨w.heap.size+1+1,10,none⟩ (.slice Ah H.length ch)) (w.heap.size+1+1) a (.slice Ap np cp) (.slice Ac nc c3)
   obtain ⟨m1,m2,m3,m4⟩:=S7.out.mid
   have RD:=hid m1
   have HU:=hid (updR_of m3 HO2.out m4 (own_off HH.out.1 (fun k hk=>hoff.1 k (by omega))) HH.out.2)
   obtain ⟨f0,f1,f2,f3,f4,f5,f6,f7,f8,f9,f10⟩:=m2.cells
   clear m1 m2 m3 m4 hoff S7 HH
   generalize mid9 (x.setCell ⟨w.heap.size+1+1,10,none⟩ (.slice Ah H.length ch)) (w.heap.size+1+1) a (.slice Ap np cp) (.slice Ac nc c3)=WM at RD HU f0 f1 f2 f3 f4 f5 f6 f7 f8 f9 f10 ⊢
   have HEV:=hid (RD.out.okN (b:=b) (u:=⟨L,a,H⟩) (base:=w.heap.size+3) (by omega) HU.out (note_zero _) HD.out)
   have KU:=hid RD.out.ru.blk
   have KN:=hid (RD.out.mid #[.slice Ag L.length cg,.int .i64 a.has,.int .i64 a.origin,.slice Ap np cp,.int .u32 a.hop,.int .u32 a.med,.int .u32 a.pref,.int .u32 a.aas,.int .u32 a.aid,.slice Ac nc c3,.slice Ah H.length ch])
   obtain ⟨k1,k3,-⟩:=RD.out.fin a (.slice Ag L.length cg) (.slice Ap np cp) (.slice Ac nc c3) (.slice Ah H.length ch) (.int .i64 0) (.int .i64 0) (.slice none 0 0)
   obtain ⟨r0,r1,r2,r3,r4,r5,r6,r7,r8,r9,r10⟩:=k1.cells
   obtain ⟨t0,t1,t2⟩:=k3.cells
   dsimp only at HEV
   clear k1 k3
   unfold endU at r0 r1 r2 r3 r4 r5 r6 r7 r8 r9 r10 t0 t1 t2 HEV
   go_wp2_with (first
    | (have h:=KU.out;refine wpList_store_row rfl 31 (.tmp 2) (.tmp 114) rfl w.heap.size _ rfl rfl _ _ h (by kernel_rfl) rfl (by simp [Value.oneCell']) ?_;clear h;clear KU f0 f1 f2 f3 f4 f5 f6 f7 f8 f9 f10)
    | (have h:=KN.out;refine wpList_store_row rfl 34 (.tmp 3) (.tmp 115) rfl (w.heap.size+1) _ rfl rfl _ _ h (by kernel_rfl) rfl (by simp [Value.oneCell']) ?_;clear h;clear KN))
   (try simp only [Exit.inBlock,Exit.then])
   refine bodyPost_ret (by simp [results,Tryz.results51,go_sem,r0,r1,r2,r3,r4,r5,r6,r7,r8,r9,r10,t0,t1,t2]) rfl HEV.out
 all_goals
  go_wp2_with (first
   | (go_at_call 95;(with_reducible refine (CU.out _ RU.out.low).mono ?_);rintro e x ⟨rfl,rfl⟩)
   | (go_at_call 96;refine (CN.out _ _ _ _ _).mono ?_;rintro e z ⟨rfl,hb⟩;have SZ:=hid (RU.out.below hb);clear hb)
   | (have h:=SZ.out;refine wpList_store_row rfl 31 (.tmp 2) _ rfl w.heap.size _ rfl rfl _ _ h.ru.blk (by kernel_rfl) rfl (by simp [Value.oneCell']) ?_;clear h;have SM:=hid (SZ.out.mid #[.slice none 0 0,.int .i64 0,.int .i64 0,.slice none 0 0,.int .u32 0,.int .u32 0,.int .u32 0,.int .u32 0,.int .u32 0,.slice none 0 0,.slice none 0 0]))
   | (have h:=SM.out;refine wpList_store_row rfl 34 (.tmp 3) _ rfl (w.heap.size+1) _ rfl rfl _ _ h (by kernel_rfl) rfl (by simp [Value.oneCell']) ?_;clear h;clear SM))
  (try simp only [Exit.inBlock,Exit.then])
  obtain ⟨⟨r0,r1,r2,r3,r4,r5,r6,r7,r8,r9,r10⟩,t0,t1,t2⟩:=SZ.out.finZ (.int .i64 3) (.int .i64 1) (.slice none 0 0)
  unfold endZ at r0 r1 r2 r3 r4 r5 r6 r7 r8 r9 r10 t0 t1 t2
  refine bodyPost_ret (by simp [results,Tryz.results51,go_sem,r0,r1,r2,r3,r4,r5,r6,r7,r8,r9,r10,t0,t1,t2]) rfl (SZ.out.bad0 (s:=1) HD.out rfl (by decide))
theorem rdec_any (v:Value) (b:List Nat) (w:World) (hv:U8s w v b) (hl:b.length≤1600):Calls Tryz.prog 51 #[v] w (DecU b w):=by
 by_cases h:b.length<2
 ·exact rdec_short v b w hv h
 ·exact rdec_long v b w hv (by omega) hl
end Upd
namespace Upd
open Go.RowKit Mem Segm Oct Att Seg PR
theorem ufault_any (s:Int) (w:World):Calls Tryz.prog 91 #[.int .i64 s] w (Tells (.agg #[.int .i64 3,.int .i64 s,.slice none 0 0]) w):=by
 have HB:=hid ((Below.refl w.heap.size w).alloc (Nat.le_refl _) (.cells #[.int .i64 3,.int .i64 s,.slice none 0 0] 34))
 go_enter Tryz.func91,Tryz.ntmps91
 go_wp2
 (try simp only [Exit.inBlock,Exit.then])
 refine bodyPost_ret (v:=.agg #[.int .i64 3,.int .i64 s,.slice none 0 0]) (by simp [results,Tryz.results91,go_sem]) rfl ?_
 exact ⟨rfl,HB.out⟩
section
variable {W W2:World} {base n:Nat} {F:Nat→Prop}
theorem own2_on {e:TypeId} {v:Value} {m:Nat} {xs:List Value} (h:W.ownsRow base e 2 v m xs) (ho:Only F W W2) (hF:∀ k,F k→k<base):W2.ownsRow base e 2 v m xs :=
 own_same2 h fun g hg=>ho.block g (h.lt g hg).2 (fun hf=>by have:=hF g hf;have:=(h.lt g hg).1;omega)
theorem atF_on {v:Value} {a:At} (h:AtF n W v a) (ho:Only F W W2) (hF:∀ k,F k→k<n):AtF n W2 v a:=by
 obtain ⟨h1,vp,vc,h2,h3,h4,h5⟩:=h
 exact ⟨h1,vp,vc,h2,segs_on h3 ho hF,u32_on h4 h5 ho hF,h5⟩
def GoP (base:Nat) (G:List Nat) (vg:Value) (er:Int) (W:World):Prop :=
 (dec val G=none∧er=2)∨∃ L A c,dec val G=some L∧er=0∧vg=.slice A L.length c∧W.ownsRow base 67 2 (.slice A L.length c) L.length (pcells L)∧Oks L
theorem GoP.on {G:List Nat} {vg:Value} {er:Int} (h:GoP base G vg er W) (ho:Only F W W2) (hF:∀ k,F k→k<base):GoP base G vg er W2:=by
 rcases h with h | ⟨L,A,c,h1,h2,h3,h4,h5⟩
 ·exact .inl h
 ·exact .inr ⟨L,A,c,h1,h2,h3,own2_on h4 ho hF,h5⟩
theorem GoP.lower {G:List Nat} {vg:Value} {er:Int} (h:GoP base G vg er W) (hn:n≤base):GoP n G vg er W:=by
 rcases h with h | ⟨L,A,c,h1,h2,h3,h4,h5⟩
 ·exact .inl h
 ·exact .inr ⟨L,A,c,h1,h2,h3,own_base h4 hn,h5⟩
theorem decO_of {G:List Nat} {e:Ending} (h:DecO G W e W2):∃ A m c er,e=.returned (.tuple #[.slice A m c,.int .i64 er])∧GoP W.heap.size G (.slice A m c) er W2∧Below W.heap.size W W2:=by
 rcases h with ⟨h1,h2,h3⟩ | ⟨L,A,c,h1,h2,h3,h4,h5⟩
 ·exact ⟨none,0,0,2,h2,.inl ⟨h1,rfl⟩,h3⟩
 ·exact ⟨A,L.length,c,0,h2,.inr ⟨L,A,c,h1,rfl,rfl,h3,h4⟩,h5⟩
theorem only_setRow (W:World) (b:Nat) (cs:Array Value):Only (fun k=>k=b) W (W.setRow b cs) :=
 ⟨rfl,rfl,rfl,by simp,fun k _ hk=>setRow_other _ _ _ _ hk⟩
end
theorem RdU.on {w W W2:World} {F:Nat→Prop} (h:RdU w W) (ho:Only F W W2) (hF:∀ k,F k→w.heap.size+2≤k):RdU w W2 :=
 ⟨⟨(ho.block _ h.ru.lt (fun hf=>by have:=hF _ hf;omega)).trans h.ru.blk⟩,⟨(ho.block _ h.r3.lt (fun hf=>by have:=hF _ hf;omega)).trans h.r3.blk⟩,h.low.trans (ho.below (fun k hk=>by have:=hF k hk;omega) h.low.size)⟩
theorem rdu_start (w:World):RdU w ((w.alloc (.cells #[.slice none 0 0,.int .i64 0,.int .i64 0,.slice none 0 0,.int .u32 0,.int .u32 0,.int .u32 0,.int .u32 0,.int .u32 0,.slice none 0 0,.slice none 0 0] 31)).alloc (.cells #[.int .i64 0,.int .i64 0,.slice none 0 0] 34)) ∧
  ((w.alloc (.cells #[.slice none 0 0,.int .i64 0,.int .i64 0,.slice none 0 0,.int .u32 0,.int .u32 0,.int .u32 0,.int .u32 0,.int .u32 0,.slice none 0 0,.slice none 0 0] 31)).alloc (.cells #[.int .i64 0,.int .i64 0,.slice none 0 0] 34)).heap.size=w.heap.size+2:=by
 have h1:=BoxU.new w 31 zeroA (.slice none 0 0) (.slice none 0 0) (.slice none 0 0) (.slice none 0 0)
 have b1:Below w.heap.size w (w.alloc (.cells #[.slice none 0 0,.int .i64 0,.int .i64 0,.slice none 0 0,.int .u32 0,.int .u32 0,.int .u32 0,.int .u32 0,.int .u32 0,.slice none 0 0,.slice none 0 0] 31)):=(Below.refl _ w).alloc (Nat.le_refl _) _
 have e1:(w.alloc (.cells #[.slice none 0 0,.int .i64 0,.int .i64 0,.slice none 0 0,.int .u32 0,.int .u32 0,.int .u32 0,.int .u32 0,.int .u32 0,.slice none 0 0,.slice none 0 0] 31)).heap.size=w.heap.size+1:=by simp
 obtain ⟨W1,hW1⟩:∃ W1,W1=w.alloc (.cells #[.slice none 0 0,.int .i64 0,.int .i64 0,.slice none 0 0,.int .u32 0,.int .u32 0,.int .u32 0,.int .u32 0,.int .u32 0,.slice none 0 0,.slice none 0 0] 31):=⟨_,rfl⟩
 have h1':BoxU W1 w.heap.size 31 zeroA (.slice none 0 0) (.slice none 0 0) (.slice none 0 0) (.slice none 0 0):=by rw [hW1];exact h1
 rw [← hW1] at b1 e1 ⊢
 have h2:=Box3.new W1 34 (.int .i64 0) (.int .i64 0) (.slice none 0 0)
 have b2:Below W1.heap.size W1 (W1.alloc (.cells #[.int .i64 0,.int .i64 0,.slice none 0 0] 34)):=(Below.refl _ _).alloc (Nat.le_refl _) _
 rw [e1] at h2
 exact ⟨⟨h1'.keep b2,h2,b1.trans (b2.mono b1.size)⟩,by simp [e1]⟩
structure UdSt (w:World) (n br:Nat) (x:Rd) (W:World):Prop where
 ru:RdU w W
 rd:R W (w.heap.size+2) n (.pointer (some ⟨br,0,none⟩)) x.l x.b (fun k=>k=br)
section
variable {w W W2:World} {n br:Nat} {x y:Rd}
theorem UdSt.ge (h:UdSt w n br x W):w.heap.size+2≤br∧br<n:=h.rd.low br rfl
theorem UdSt.le (h:UdSt w n br x W):n≤W.heap.size:=by
 rcases h.rd with ⟨h1,-⟩ | ⟨b,s,-,-,-,h4,-⟩
 ·cases h1
 ·exact h4
theorem UdSt.below (h:UdSt w n br x W) (hb:Below W.heap.size W W2):UdSt w n br x W2:=⟨h.ru.below hb,h.rd.below hb⟩
theorem UdSt.read (h:UdSt w n br x W) (hr:R W2 (w.heap.size+2) n (.pointer (some ⟨br,0,none⟩)) y.l y.b (fun k=>k=br)) (ho:Only (fun k=>k=br) W W2):UdSt w n br y W2 :=
 ⟨h.ru.on ho (fun k hk=>by have:=h.ge.1;omega),hr⟩
theorem UdSt.far {F:Nat→Prop} (h:UdSt w n br x W) (ho:Only F W W2) (hF:∀ k,F k→n≤k):UdSt w n br x W2 :=
 ⟨h.ru.on ho (fun k hk=>by have:=h.ge;have:=hF k hk;omega),h.rd.far ho hF⟩
end
theorem updF_of {n:Nat} {W:World} {L H:List Pf} {Ag Ah:Option Addr} {cg ch:Nat} {a:At} {vp vc:Value} (hg:W.ownsRow n 67 2 (.slice Ag L.length cg) L.length (pcells L)) (hok:Oks L) (ha:AtF n W (aV a vp vc) a) (hh:W.ownsRow n 67 2 (.slice Ah H.length ch) H.length (pcells H)) (hok2:Oks H) :
  UpdF n W (uV a (.slice Ag L.length cg) vp vc (.slice Ah H.length ch)) ⟨L,a,H⟩:=by
 obtain ⟨h1,vp',vc',h2,h3,h4,h5⟩:=ha
 simp only [aV,acells,Value.agg.injEq,List.toArray_eq_iff,List.cons.injEq,and_true,true_and] at h2
 obtain ⟨rfl,rfl⟩:=h2
 exact ⟨Ag,cg,vp,vc,Ah,ch,rfl,hg,hok,⟨h1,h3,h4,h5⟩,hh,hok2⟩
structure UpSt (w:World) (n br:Nat) (x:Rd) (L:List Pf) (A:Option Addr) (c:Nat) (a:At) (q0 q1:Int) (vp vc vd:Value) (X W:World):Prop where
 ud:UdSt w n br x W
 own:X.ownsRow n 67 2 (.slice A L.length c) L.length (pcells L)
 at_:AtF n X (aV a vp vc) a
 hn:n≤X.heap.size
 on:Only (fun k=>k=br) X W
 b9:Box9 W X.heap.size 29 (.int .i64 a.has) (.int .i64 a.origin) vp (.int .u32 a.hop) (.int .u32 a.med) (.int .u32 a.pref) (.int .u32 a.aas) (.int .u32 a.aid) vc
 b3:Box3 W (X.heap.size+1) 34 (.int .i64 q0) (.int .i64 q1) vd
section
variable {w X W W2:World} {n br:Nat} {x y:Rd} {L:List Pf} {A:Option Addr} {c:Nat} {a:At} {q0 q1 q2 q3:Int} {vp vc vd vd2:Value}
theorem UpSt.below (h:UpSt w n br x L A c a q0 q1 vp vc vd X W) (hb:Below W.heap.size W W2):UpSt w n br x L A c a q0 q1 vp vc vd X W2 :=
 ⟨h.ud.below hb,h.own,h.at_,h.hn,h.on.trans (Only.of hb),h.b9.keep hb,h.b3.keep hb⟩
theorem UpSt.read (h:UpSt w n br x L A c a q0 q1 vp vc vd X W) (hr:R W2 (w.heap.size+2) n (.pointer (some ⟨br,0,none⟩)) y.l y.b (fun k=>k=br)) (ho:Only (fun k=>k=br) W W2):UpSt w n br y L A c a q0 q1 vp vc vd X W2:=by
 have hg:=h.ud.ge.2
 have hB:=h.hn
 exact ⟨h.ud.read hr ho,h.own,h.at_,h.hn,h.on.trans ho,⟨(ho.block X.heap.size h.b9.lt (by omega)).trans h.b9.blk⟩,⟨(ho.block (X.heap.size+1) h.b3.lt (by omega)).trans h.b3.blk⟩⟩
theorem UpSt.note (h:UpSt w n br x L A c a q0 q1 vp vc vd X W) (q2 q3:Int) (vd2:Value):UpSt w n br x L A c a q2 q3 vp vc vd2 X (W.setRow (X.heap.size+1) #[.int .i64 q2,.int .i64 q3,vd2]):=by
 have ho:=only_setRow W (X.heap.size+1) #[.int .i64 q2,.int .i64 q3,vd2]
 have hB:=h.hn
 exact ⟨h.ud.far ho (fun k hk=>by omega),h.own,h.at_,h.hn,only_new h.on ho (fun k hk=>by omega),⟨(setRow_other _ _ _ _ (by omega)).trans h.b9.blk⟩,⟨setRow_heap _ _ _ _ _ _ h.b3.blk⟩⟩
theorem UpSt.gone (h:UpSt w n br x L A c a q0 q1 vp vc vd X W):W.ownsRow n 67 2 (.slice A L.length c) L.length (pcells L) :=
 own2_on h.own h.on (fun k hk=>by have:=h.ud.ge.2;omega)
theorem UpSt.attrs (h:UpSt w n br x L A c a q0 q1 vp vc vd X W):AtF n W (aV a vp vc) a:=atF_on h.at_ h.on (fun k hk=>by have:=h.ud.ge.2;omega)
theorem up_start (q0 q1:Int) (vd:Value) (h1:UdSt w n br x X) (h2:X.ownsRow n 67 2 (.slice A L.length c) L.length (pcells L)) (h3:AtF n X (aV a vp vc) a) :
  UpSt w n br x L A c a q0 q1 vp vc vd X (((new16 X).setRow X.heap.size #[.int .i64 a.has,.int .i64 a.origin,vp,.int .u32 a.hop,.int .u32 a.med,.int .u32 a.pref,.int .u32 a.aas,.int .u32 a.aid,vc]).setRow (X.heap.size+1) #[.int .i64 q0,.int .i64 q1,vd]) ∧
  Below X.heap.size X (((new16 X).setRow X.heap.size #[.int .i64 a.has,.int .i64 a.origin,vp,.int .u32 a.hop,.int .u32 a.med,.int .u32 a.pref,.int .u32 a.aas,.int .u32 a.aid,vc]).setRow (X.heap.size+1) #[.int .i64 q0,.int .i64 q1,vd]):=by
 have hb:Below X.heap.size X (((new16 X).setRow X.heap.size #[.int .i64 a.has,.int .i64 a.origin,vp,.int .u32 a.hop,.int .u32 a.med,.int .u32 a.pref,.int .u32 a.aas,.int .u32 a.aid,vc]).setRow (X.heap.size+1) #[.int .i64 q0,.int .i64 q1,vd]) :=
  below_setRow (below_setRow (new16_low X) (Nat.le_refl _) _) (by omega) _
 exact ⟨⟨h1.below hb,h2,h3,h1.le,Only.of hb,⟨(setRow_other _ _ _ _ (by omega)).trans (setRow_heap _ _ _ _ _ _ (new16_9 X))⟩,⟨setRow_heap _ _ _ _ _ _ (new16_3 X _)⟩⟩,hb⟩
end
end Upd
namespace Upd
open Go.RowKit Mem Segm Oct Att Seg PR
theorem note_apart {W W2:World} {v:Value} {n:No} {B:Nat} (h:Note W v n) (hB:∀ i k,W.cell? ⟨B,i,none⟩≠some (.int .u8 k)) (hk:∀ k,k≠B→W2.heap[k]?=W.heap[k]?) (hs:W.heap.size≤W2.heap.size):Note W2 v n:=by
 obtain ⟨h1,h2,vd,h3,h4⟩:=h
 exact ⟨h1,h2,vd,h3,u8_apart h4 hB hk hs⟩
theorem UpSt.pre {w X W:World} {n br:Nat} {x:Rd} {L:List Pf} {A:Option Addr} {c:Nat} {a:At} {q0 q1:Int} {vp vc vd:Value} (h:UpSt w n br x L A c a q0 q1 vp vc vd X W) (cs:Array Value) :
  ((W.drew.setRow w.heap.size cs).cell? ⟨X.heap.size+1,0,none⟩=some (.int .i64 q0)∧(W.drew.setRow w.heap.size cs).cell? ⟨X.heap.size+1,1,none⟩=some (.int .i64 q1)∧(W.drew.setRow w.heap.size cs).cell? ⟨X.heap.size+1,2,none⟩=some vd) ∧
  Hid (W.drew.heap[w.heap.size]?=some (.cells #[.slice none 0 0,.int .i64 0,.int .i64 0,.slice none 0 0,.int .u32 0,.int .u32 0,.int .u32 0,.int .u32 0,.int .u32 0,.slice none 0 0,.slice none 0 0] 31 (0,0))) ∧
  Hid ((W.drew.setRow w.heap.size cs).heap[w.heap.size+1]?=some (.cells #[.int .i64 0,.int .i64 0,.slice none 0 0] 34 (0,0))):=by
 obtain ⟨q0,q1,q2⟩:=h.b3.cells
 have hw:X.heap.size+1≠w.heap.size:=by have:=h.hn;have:=h.ud.ge;omega
 exact ⟨⟨(cell_setRow_other W.drew w.heap.size cs ⟨X.heap.size+1,0,none⟩ hw).trans q0,(cell_setRow_other W.drew w.heap.size cs ⟨X.heap.size+1,1,none⟩ hw).trans q1,(cell_setRow_other W.drew w.heap.size cs ⟨X.heap.size+1,2,none⟩ hw).trans q2⟩,h.ud.ru.ru.blk,(setRow_other W.drew w.heap.size (w.heap.size+1) cs (by omega)).trans h.ud.ru.r3.blk⟩
theorem udec_any (v:Value) (b:List Nat) (w:World) (hv:U8s w v b) (hl:b.length≤5000) (hSh:Shp w):Calls Tryz.prog 47 #[v] w (DecU b w):=by
 obtain ⟨D1,D2⟩:=rdu_start w
 have HSb:=hid hv.2
 have CN:=hid (new_any v b _ (hv.keep D1.low) (by omega))
 have D0:=hid (And.intro D1 D2)
 have CF:=hid ufault_any
 obtain ⟨x0,h0⟩:∃ x,x=Rd.mk b false:=⟨_,rfl⟩
 obtain ⟨n1,hn1⟩:∃ n,n=x0.num 2:=⟨_,rfl⟩
 obtain ⟨x1,h1⟩:∃ x,x=x0.go 2:=⟨_,rfl⟩
 obtain ⟨G,hG⟩:∃ g,g=got x1.l x1.b (n1:Nat):=⟨_,rfl⟩
 obtain ⟨x2,h2⟩:∃ x,x=x1.go (n1:Nat):=⟨_,rfl⟩
 obtain ⟨n2,hn2⟩:∃ n,n=x2.num 2:=⟨_,rfl⟩
 obtain ⟨x3,h3⟩:∃ x,x=x2.go 2:=⟨_,rfl⟩
 obtain ⟨Q,hQ⟩:∃ g,g=got x3.l x3.b (n2:Nat):=⟨_,rfl⟩
 obtain ⟨x4,h4⟩:∃ x,x=x3.go (n2:Nat):=⟨_,rfl⟩
 have HS0:=hid (show Small x0.l from by rw [h0];exact HSb.out)
 have HS2:=hid (show Small x2.l from by rw [h2];exact Rd.small (by rw [h1];exact Rd.small HS0.out _) _)
 have hn1s:n1<65536:=by rw [hn1];exact num_lt HS0.out 2
 have hn2s:n2<65536:=by rw [hn2];exact num_lt HS2.out 2
 have l1:x1.l.length≤5000:=by rw [h1];exact Nat.le_trans (rest_len _ _ _) (by rw [h0];exact hl)
 have l2:x2.l.length≤5000:=by rw [h2];exact Nat.le_trans (rest_len _ _ _) l1
 have l3:x3.l.length≤5000:=by rw [h3];exact Nat.le_trans (rest_len _ _ _) l2
 have hx4l:x4.l.length≤5000:=by rw [h4];exact Nat.le_trans (rest_len _ _ _) l3
 have hGl:G.length≤100000:=by rw [hG];exact Nat.le_trans (got_len2 _ _ _) (Nat.le_trans l1 (by decide))
 have hQl:Q.length≤100000:=by rw [hQ];exact Nat.le_trans (got_len2 _ _ _) (Nat.le_trans l3 (by decide))
 have RDU:=hid (rd_upd b x1 x2 x3 x4 n1 n2 G Q (by rw [h1,h0]) (by rw [hn1,h0]) h2 hG h3 hn2 h4 hQ)
 have C1:=hid (fun n br W (h:R W (w.heap.size+2) n (.pointer (some ⟨br,0,none⟩)) x0.l x0.b (fun k=>k=br))=>show Calls Tryz.prog 83 #[.pointer (some ⟨br,0,none⟩)] W (fun e w'=>e=.returned (.int .i64 n1)∧R w' (w.heap.size+2) n (.pointer (some ⟨br,0,none⟩)) x1.l x1.b (fun k=>k=br)∧Only (fun k=>k=br) W w') from by
  rw [hn1,h1]
  exact u16_any _ _ n x0.l x0.b _ W HS0.out h)
 have C2:=hid (fun n br W (h:R W (w.heap.size+2) n (.pointer (some ⟨br,0,none⟩)) x1.l x1.b (fun k=>k=br))=>show Calls Tryz.prog 90 #[.pointer (some ⟨br,0,none⟩),.int .i64 n1] W (fun e w'=>∃ A c,e=.returned (.slice A G.length c)∧U8s w' (.slice A G.length c) G∧R w' (w.heap.size+2) n (.pointer (some ⟨br,0,none⟩)) x2.l x2.b (fun k=>k=br)∧Only (fun k=>k=br) W w') from by
  rw [hG,h2]
  exact take_any _ _ n x1.l x1.b _ (n1:Int) (by simp [Lit.wf,IntKind.min,IntKind.max,IntKind.signed,IntKind.bits];omega) W h)
 have C3:=hid (fun n br W (h:R W (w.heap.size+2) n (.pointer (some ⟨br,0,none⟩)) x2.l x2.b (fun k=>k=br))=>show Calls Tryz.prog 83 #[.pointer (some ⟨br,0,none⟩)] W (fun e w'=>e=.returned (.int .i64 n2)∧R w' (w.heap.size+2) n (.pointer (some ⟨br,0,none⟩)) x3.l x3.b (fun k=>k=br)∧Only (fun k=>k=br) W w') from by
  rw [hn2,h3]
  exact u16_any _ _ n x2.l x2.b _ W HS2.out h)
 have C4:=hid (fun n br W (h:R W (w.heap.size+2) n (.pointer (some ⟨br,0,none⟩)) x3.l x3.b (fun k=>k=br))=>show Calls Tryz.prog 90 #[.pointer (some ⟨br,0,none⟩),.int .i64 n2] W (fun e w'=>∃ A c,e=.returned (.slice A Q.length c)∧U8s w' (.slice A Q.length c) Q∧R w' (w.heap.size+2) n (.pointer (some ⟨br,0,none⟩)) x4.l x4.b (fun k=>k=br)∧Only (fun k=>k=br) W w') from by
  rw [hQ,h4]
  exact take_any _ _ n x3.l x3.b _ (n2:Int) (by simp [Lit.wf,IntKind.min,IntKind.max,IntKind.signed,IntKind.bits];omega) W h)
 have CD:=hid (fun vv W (h:U8s W vv G)=>(decode_own vv G W h hGl).mono fun _ _ h=>decO_of h)
 have CA:=hid (fun vv W (h:U8s W vv Q) (hb:Below w.heap.size w W)=>(decode_g vv Q W h hQl (hSh.keep hb)).mono fun _ _ h=>dec16_of h)
 have CB:=hid (fun n br W (h:R W (w.heap.size+2) n (.pointer (some ⟨br,0,none⟩)) x4.l x4.b (fun k=>k=br))=>bad_any _ _ n x4.l x4.b _ W h)
 have HX0:=hid h0
 clear D1 D2 hv h0 hn1 h1 hG h2 hn2 h3 hQ h4 HSb HS0 HS2 hn1s hn2s l1 l2 l3 hGl hQl hl hSh
 go_enter Tryz.func47,Tryz.ntmps47
 go_upto_region 4 with (first
  | (have h:=D0.out;go_at_call 81;refine CN.out.mono ?_;rintro e z0 ⟨br,rfl,hR,hb⟩;rw [h.2] at hR;have T0:=hid (UdSt.mk (x:=x0) (h.1.below hb) (by rw [HX0.out];exact hR));clear hR hb h D0)
  | (have h:=T0.out;go_at_call 83;refine (C1.out _ _ _ h.rd).mono ?_;rintro e z1 ⟨rfl,hR,ho⟩;have T1:=hid (h.read (y:=x1) hR ho);clear hR ho h T0)
  | (have h:=T1.out;go_at_call 90;refine (C2.out _ _ _ h.rd).mono ?_;rintro e z2 ⟨A2,c2,rfl,hU,hR,ho⟩;have T2:=hid (h.read (y:=x2) hR ho);have U2:=hid hU;clear hU hR ho h T1)
  | (have h:=T2.out;go_at_call 89;refine (CD.out _ _ U2.out).mono ?_;rintro e z3 ⟨Ag,mg,cg,er,rfl,hGO,hb⟩;have GO3:=hid (hGO.lower h.le);have T3:=hid (h.below hb);clear hGO hb h T2 U2)
  | (have h:=T3.out;go_at_call 83;refine (C3.out _ _ _ h.rd).mono ?_;rintro e z4 ⟨rfl,hR,ho⟩;have T4:=hid (h.read (y:=x3) hR ho);have GO4:=hid (GO3.out.on ho (fun k hk=>by have:=h.ge.2;omega));clear hR ho h T3 GO3)
  | (have h:=T4.out;go_at_call 90;refine (C4.out _ _ _ h.rd).mono ?_;rintro e z5 ⟨A5,c5,rfl,hU,hR,ho⟩;have T5:=hid (h.read (y:=x4) hR ho);have U5:=hid hU;have GO5:=hid (GO4.out.on ho (fun k hk=>by have:=h.ge.2;omega));clear hU hR ho h T4 GO4))
 clear C1 C2 C3 C4 HX0 CN
 rcases GO5.out with ⟨hd,rfl⟩ | ⟨L,Ag2,cg2,hd,rfl,hvg,hown,hok⟩
 focus
  have HD:=hid (show decU b=.inl ⟨3,(1:Nat),[]⟩ from by
   cases hb4:x4.b with
   | true=>exact RDU.out.1 hb4
   | false=>exact (RDU.out.2 hb4).1 hd)
  have RU:=hid T5.out.ru
  have FZ:=hid (fun W (h:RdU w W)=>h.finZ (.int .i64 3) (.int .i64 1) (.slice none 0 0))
  clear hd GO5 U5 CA CB CD
 rotate_left
 injection hvg with hv1 hv2 hv3
 subst hv1 hv2 hv3
 have OW:=hid hown
 have HOK:=hid hok
 clear GO5 hown hok CD
 rcases hb4:x4.b with _ | _
 rotate_left
 focus
  have HD:=hid (show decU b=.inl ⟨3,(1:Nat),[]⟩ from RDU.out.1 hb4)
  have CBx:=hid (fun n br W (h:R W (w.heap.size+2) n (.pointer (some ⟨br,0,none⟩)) x4.l x4.b (fun k=>k=br))=>show Calls Tryz.prog 85 #[.pointer (some ⟨br,0,none⟩)] W (Tells (.bool true) W) from by
   have k2:=CB.out _ _ _ h
   rw [hb4] at k2
   exact k2)
  have RU:=hid T5.out.ru
  have FZ:=hid (fun W (h:RdU w W)=>h.finZ (.int .i64 3) (.int .i64 1) (.slice none 0 0))
  clear hd hb4 CA CB
 rotate_left 2
 have HD2:=hid (show decU b=decU2 L (decodeA Q) x4.l from (RDU.out.2 hb4).2 L hd)
 have CBx:=hid (fun n br W (h:R W (w.heap.size+2) n (.pointer (some ⟨br,0,none⟩)) x4.l x4.b (fun k=>k=br))=>show Calls Tryz.prog 85 #[.pointer (some ⟨br,0,none⟩)] W (Tells (.bool false) W) from by
  have k2:=CB.out _ _ _ h
  rw [hb4] at k2
  exact k2)
 clear CB
 have HB4:=hid hb4
 clear hd RDU hb4
 focus go_upto_region 6 with ((have h:=T5.out;go_at_call 85;refine (CBx.out _ _ _ h.rd).mono ?_;rintro e z6 ⟨rfl,hb⟩;have T6:=hid (h.below hb);have U6:=hid (U5.out.keep hb);have OW6:=hid (own_keep OW.out hb);clear hb h T5 U5 OW))
 focus go_cut [8,9] (fun s8 s9 wx=>∃ (X:World) (a:At) (m:No) (Ap:Option Addr) (np cp:Nat) (Ac:Option Addr) (nc c3:Nat) (Ad:Option Addr) (nd cd:Nat),s8=.pointer (some ⟨X.heap.size,0,none⟩)∧s9=.pointer (some ⟨X.heap.size+1,0,none⟩)∧Hid (a=(outA (decodeA Q)).1∧m=(outA (decodeA Q)).2)∧Hid (UpSt w z0.heap.size br x4 L Ag cg a m.code m.sub (.slice Ap np cp) (.slice Ac nc c3) (.slice Ad nd cd) X wx)∧Hid (Note wx (.agg #[.int .i64 m.code,.int .i64 m.sub,.slice Ad nd cd]) m))
 case first =>
  go_wp2_with (first
   | (have h:=T6.out;go_at_call 92;refine (CA.out _ _ U6.out h.ru.low).mono ?_;rintro e X ⟨a,m,Ap,np,cp,Ac,nc,c3,Ad,nd,cd,ha,hm,rfl,h1,h2,hb⟩;have SS:=up_start m.code m.sub (.slice Ad nd cd) (h.below hb) (own_keep OW6.out hb) (atF_lower h1 (h.le));have S:=hid SS.1;have NO:=hid (h2.keep SS.2);have HE:=hid (And.intro ha hm);have K9:=hid (new16_9 X);have K3:=hid (new16_3 X #[.int .i64 a.has,.int .i64 a.origin,.slice Ap np cp,.int .u32 a.hop,.int .u32 a.med,.int .u32 a.pref,.int .u32 a.aas,.int .u32 a.aid,.slice Ac nc c3]);unfold new16 at S K9 K3 NO;unfold aV;clear ha hm h1 h2 hb h SS T6 U6 OW6)
   | (have h:=K9.out;refine wpList_store_row rfl 29 (.tmp 8) (.tmp 36) rfl X.heap.size _ rfl rfl _ _ h (by kernel_rfl) rfl (by simp [Value.oneCell']) ?_;clear h;clear K9)
   | (have h:=K3.out;refine wpList_store_row rfl 34 (.tmp 9) (.tmp 37) rfl (X.heap.size+1) _ rfl rfl _ _ h (by kernel_rfl) rfl (by simp [Value.oneCell']) ?_;clear h;clear K3))
  go_meet
  exact ⟨_,_,_,_,_,_,_,_,_,_,_,_,rfl,rfl,HE,S,NO⟩
 obtain ⟨X,a,m,Ap,np,cp,Ac,nc,c3,Ad,nd,cd,rfl,rfl,HE,S,NO⟩:=hcut
 clear CBx CA
 rcases hr:decodeA Q with m2 | a2
 ·obtain ⟨ha,hn⟩:=HE.out
  rw [hr] at ha hn
  replace hn:m=m2:=hn
  subst hn
  have hcode:m.code=3:=decA_code _ _ _ _ _ hr
  have HD:=hid (show decU b=.inl m from by rw [HD2.out,hr];rfl)
  have y1:((m.code:Int) != 0)=true:=by rw [hcode];rfl
  clear ha hr HE hcode HD2
  obtain ⟨q0,q1,q2⟩:=S.out.b3.cells
  obtain ⟨⟨p0,p1,p2⟩,KU,KN⟩:=S.out.pre #[.slice none 0 0,.int .i64 0,.int .i64 0,.slice none 0 0,.int .u32 0,.int .u32 0,.int .u32 0,.int .u32 0,.int .u32 0,.slice none 0 0,.slice none 0 0]
  go_upto_region 8 with fail
  go_cut [] (fun wx=>wx=endZ w wc.drew (.int .i64 m.code) (.int .i64 m.sub) (.slice Ad nd cd))
  case first =>
   refine wp_region_any (by kernel_rfl) ?_
   change wpAny _ _ _ _ _ _ _ (World.drew _)
   refine wpAny_take (i:=0) rfl (by kernel_rfl) (by kernel_rfl) (by kernel_rfl) (fun _ _ _ h=>h) (Or.inl ⟨by rfl,by intro w;go_simp;try with_reducible rfl⟩) ?_
   refine wpAny_ready (rs:=[1,2]) (by kernel_rfl) (by simp) ?_
   refine AllReady.cons rfl (fun K hK=>?_) (AllReady.cons rfl (fun K hK=>?_) AllReady.nil)
   focus
    go_simp
    refine hK _ _ ?_
    clear hK K
    refine wpAny_ready (rs:=[2]) (by kernel_rfl) (by simp) ?_
    refine AllReady.cons rfl (fun K hK=>?_) AllReady.nil
    rw [if_pos (by rfl)]
    refine wp_store_row 31 (.tmp 2) (.tmp 41) rfl w.heap.size _ rfl rfl _ _ KU.out (by kernel_rfl) rfl (by simp [Value.oneCell']) ?_
    refine hK _ _ ?_
    clear hK K
   rotate_left
   focus
    rw [if_pos (by rfl)]
    refine wp_store_row 31 (.tmp 2) (.tmp 41) rfl w.heap.size _ rfl rfl _ _ KU.out (by kernel_rfl) rfl (by simp [Value.oneCell']) ?_
    refine hK _ _ ?_
    clear hK K
    refine wpAny_ready (rs:=[1]) (by kernel_rfl) (by simp) ?_
    refine AllReady.cons rfl (fun K hK=>?_) AllReady.nil
    go_simp
    refine hK _ _ ?_
    clear hK K
   all_goals
    refine wpAny_ready (rs:=[3]) (by kernel_rfl) (by simp) ?_
    refine AllReady.cons rfl (fun K hK=>?_) AllReady.nil
    rw [if_pos (by rfl)]
    refine wp_store_row 34 (.tmp 3) (.tmp 42) rfl (w.heap.size+1) _ rfl rfl _ _ KN.out (by kernel_rfl) rfl (by simp [Value.oneCell']) ?_
    refine hK _ _ ?_
    clear hK K
    refine wpAny_done (by kernel_rfl) ?_ _
    go_wp2_with fail
    go_meet
    rfl
  subst hcut
  have RD:=hid (S.out.ud.ru.below (Below.refl _ wc).drew)
  have NO2:=hid (NO.out.keep (Below.refl _ wc).drew)
  obtain ⟨⟨r0,r1,r2,r3,r4,r5,r6,r7,r8,r9,r10⟩,t0,t1,t2⟩:=RD.out.finZ (.int .i64 m.code) (.int .i64 m.sub) (.slice Ad nd cd)
  clear KU KN p0 p1 p2 q0 q1 q2 S y1 NO
  have HEV:=hid (RD.out.badN HD.out NO2.out)
  generalize endZ w wc.drew (.int .i64 m.code) (.int .i64 m.sub) (.slice Ad nd cd)=WE at r0 r1 r2 r3 r4 r5 r6 r7 r8 r9 r10 t0 t1 t2 HEV ⊢
  go_wp2_with fail
  (try simp only [Exit.inBlock,Exit.then])
  refine bodyPost_ret (by simp [results,Tryz.results47,go_sem,r0,r1,r2,r3,r4,r5,r6,r7,r8,r9,r10,t0,t1,t2]) rfl HEV.out
 obtain ⟨ha,hn⟩:=HE.out
 rw [hr] at ha hn
 replace hn:m=⟨0,0,[]⟩:=hn
 replace ha:a=a2:=ha
 subst ha hn
 replace S:=hid (show UpSt w z0.heap.size br x4 L Ag cg a 0 0 (.slice Ap np cp) (.slice Ac nc c3) (.slice Ad nd cd) X wc from S.out)
 replace NO:=hid (show Note wc (.agg #[.int .i64 0,.int .i64 0,.slice Ad nd cd]) ⟨0,0,[]⟩ from NO.out)
 have HD3:=hid (show decU b=decU3 L a x4.l from by rw [HD2.out,hr];rfl)
 clear hr HE HD2
 obtain ⟨q0,q1,q2⟩:=S.out.b3.cells
 have CL:=hid (fun n br W (h:R W (w.heap.size+2) n (.pointer (some ⟨br,0,none⟩)) x4.l x4.b (fun k=>k=br))=>left_any _ _ n x4.l x4.b _ W h)
 have left:Hid True:=hid True.intro
 focus go_upto_region 9 with fail
 have T9:=hid True.intro
 by_cases k2:x4.l.length=0
 ·have y2:((x4.l.length:Int) == 0)=true:=by rw [k2];rfl
  have HD:=hid (show decU b=.inr ⟨L,zeroA,[]⟩ from by rw [HD3.out];exact if_pos (List.eq_nil_of_length_eq_zero k2))
  clear k2 HD3
  go_upto_region 10 with (have tok:=T9.out;go_at_call 87;refine (CL.out _ _ _ S.out.ud.rd).mono ?_;rintro e zl ⟨rfl,hb⟩;replace S:=hid (S.out.below hb);replace NO:=hid (NO.out.keep hb);clear hb tok T9 q0 q1 q2;obtain ⟨q0,q1,q2⟩:=S.out.b3.cells)
  obtain ⟨⟨p0,p1,p2⟩,KU,KN⟩:=S.out.pre #[.slice Ag L.length cg,.int .i64 0,.int .i64 0,.slice none 0 0,.int .u32 0,.int .u32 0,.int .u32 0,.int .u32 0,.int .u32 0,.slice none 0 0,.slice none 0 0]
  go_cut [] (fun wx=>wx=endU w zl.drew zeroA (.slice Ag L.length cg) (.slice none 0 0) (.slice none 0 0) (.slice none 0 0) (.int .i64 0) (.int .i64 0) (.slice Ad nd cd))
  case first =>
   refine wp_region_any (by kernel_rfl) ?_
   change wpAny _ _ _ _ _ _ _ (World.drew _)
   refine wpAny_take (i:=0) rfl (by kernel_rfl) (by kernel_rfl) (by kernel_rfl) (fun _ _ _ h=>h) (Or.inl ⟨by rfl,by intro w;go_simp;try with_reducible rfl⟩) ?_
   refine wpAny_take (i:=1) rfl (by kernel_rfl) (by kernel_rfl) (by kernel_rfl) (fun _ _ _ h=>h) (Or.inl ⟨by rfl,by intro w;go_simp;try with_reducible rfl⟩) ?_
   refine wpAny_ready (rs:=[2,3]) (by kernel_rfl) (by simp) ?_
   refine AllReady.cons rfl (fun K hK=>?_) (AllReady.cons rfl (fun K hK=>?_) AllReady.nil)
   focus
    go_simp
    refine hK _ _ ?_
    clear hK K
    refine wpAny_ready (rs:=[3]) (by kernel_rfl) (by simp) ?_
    refine AllReady.cons rfl (fun K hK=>?_) AllReady.nil
    rw [if_pos (by rfl)]
    refine wp_store_row 31 (.tmp 2) (.tmp 47) rfl w.heap.size _ rfl rfl _ _ KU.out (by kernel_rfl) rfl (by simp [Value.oneCell']) ?_
    refine hK _ _ ?_
    clear hK K
   rotate_left
   focus
    rw [if_pos (by rfl)]
    refine wp_store_row 31 (.tmp 2) (.tmp 47) rfl w.heap.size _ rfl rfl _ _ KU.out (by kernel_rfl) rfl (by simp [Value.oneCell']) ?_
    refine hK _ _ ?_
    clear hK K
    refine wpAny_ready (rs:=[2]) (by kernel_rfl) (by simp) ?_
    refine AllReady.cons rfl (fun K hK=>?_) AllReady.nil
    go_simp
    refine hK _ _ ?_
    clear hK K
   all_goals
    refine wpAny_ready (rs:=[4]) (by kernel_rfl) (by simp) ?_
    refine AllReady.cons rfl (fun K hK=>?_) AllReady.nil
    rw [if_pos (by rfl)]
    refine wp_store_row 34 (.tmp 3) (.tmp 48) rfl (w.heap.size+1) _ rfl rfl _ _ KN.out (by kernel_rfl) rfl (by simp [Value.oneCell']) ?_
    refine hK _ _ ?_
    clear hK K
    refine wpAny_done (by kernel_rfl) ?_ _
    go_wp2_with fail
    go_meet
    rfl
  subst hcut
  have RD:=hid (S.out.ud.ru.below (Below.refl _ zl).drew)
  have NO2:=hid (NO.out.keep (Below.refl _ zl).drew)
  have hge:=S.out.ud.ge
  have HU:=hid (show UpdF z0.heap.size zl.drew (uV zeroA (.slice Ag L.length cg) (.slice none 0 0) (.slice none 0 0) (.slice none 0 0)) ⟨L,zeroA,[]⟩ from ⟨Ag,cg,_,_,none,0,rfl,own_keep S.out.gone (Below.refl _ zl).drew,HOK.out,⟨zeroA_ok,nil_segsF _ _ _,U32s.nil _,NewAt.nil _⟩,World.ownsRow_nil _ _ _ _,oks_nil⟩)
  obtain ⟨f0,f1,-⟩:=RD.out.fin zeroA (.slice Ag L.length cg) (.slice none 0 0) (.slice none 0 0) (.slice none 0 0) (.int .i64 0) (.int .i64 0) (.slice Ad nd cd)
  obtain ⟨r0,r1,r2,r3,r4,r5,r6,r7,r8,r9,r10⟩:=zcells f0
  obtain ⟨t0,t1,t2⟩:=f1.cells
  clear f0 f1 KU KN p0 p1 p2 q0 q1 q2 S y2 NO
  have HEV:=hid (show DecU b w (.returned (.tuple #[.agg #[.slice Ag L.length cg,.int .i64 0,.int .i64 0,.slice none 0 0,.int .u32 0,.int .u32 0,.int .u32 0,.int .u32 0,.int .u32 0,.slice none 0 0,.slice none 0 0],.agg #[.int .i64 0,.int .i64 0,.slice Ad nd cd]])) (endU w zl.drew zeroA (.slice Ag L.length cg) (.slice none 0 0) (.slice none 0 0) (.slice none 0 0) (.int .i64 0) (.int .i64 0) (.slice Ad nd cd)) from RD.out.okN (b:=b) (u:=⟨L,zeroA,[]⟩) (base:=z0.heap.size) (by omega) HU.out NO2.out HD.out)
  clear hge
  generalize endU w zl.drew zeroA (.slice Ag L.length cg) (.slice none 0 0) (.slice none 0 0) (.slice none 0 0) (.int .i64 0) (.int .i64 0) (.slice Ad nd cd)=WE at r0 r1 r2 r3 r4 r5 r6 r7 r8 r9 r10 t0 t1 t2 HEV ⊢
  go_wp2_with fail
  (try simp only [Exit.inBlock,Exit.then])
  refine bodyPost_ret (by simp [results,Tryz.results47,go_sem,r0,r1,r2,r3,r4,r5,r6,r7,r8,r9,r10,t0,t1,t2]) rfl HEV.out
 have y2:((x4.l.length:Int) == 0)=false:=by rw [beq_eq_false_iff_ne];omega
 obtain ⟨v0,v1,v2,v3,v4,v5,v6,v7,v8⟩:=S.out.b9.cells
 have CW:=hid (fun vv W (h:Attrs W vv a)=>well_any vv a W h)
 generalize hm:wellN a.has=m at CW
 have HM:=hid hm
 clear hm
 focus go_upto_region 11 with ((have tok:=T9.out;go_at_call 87;refine (CL.out _ _ _ S.out.ud.rd).mono ?_;rintro e zl ⟨rfl,hb⟩;replace S:=hid (S.out.below hb);replace NO:=hid (NO.out.keep hb);clear hb tok T9 q0 q1 q2 v0 v1 v2 v3 v4 v5 v6 v7 v8;obtain ⟨q0,q1,q2⟩:=S.out.b3.cells;obtain ⟨v0,v1,v2,v3,v4,v5,v6,v7,v8⟩:=S.out.b9.cells))
 focus go_cut [] (fun wx=>∃ (Ad:Option Addr) (nd cd:Nat),Hid (UpSt w z0.heap.size br x4 L Ag cg a m.code m.sub (.slice Ap np cp) (.slice Ac nc c3) (.slice Ad nd cd) X wx)∧Hid (Note wx (.agg #[.int .i64 m.code,.int .i64 m.sub,.slice Ad nd cd]) m))
 case first =>
  go_wp2_with (first
   | (have h:=S.out;go_at_call 68;refine (CW.out _ _ h.attrs.attrs).mono ?_;rintro e xw ⟨v2,rfl,hN,hb⟩;obtain ⟨vd2,rfl,hD⟩:=note_form hN;obtain ⟨Aw,cw,rfl,-,-⟩:=hD.form;have S9:=hid (h.below hb);have NW:=hid hN;clear hN hb hD h S)
   | (have h:=S9.out.b3.blk;refine wpList_store_row rfl 34 (.tmp 9) (.tmp 50) rfl (X.heap.size+1) _ rfl rfl _ _ h (by kernel_rfl) rfl (by simp [Value.oneCell']) ?_;clear h))
  go_meet
  exact ⟨_,_,_,hid (S9.out.note _ _ _),hid (note_apart NW.out (S9.out.b3.no8 (no8_i _) (no8_i _) (no8_s _ _ _)) (fun k hk=>setRow_other _ _ _ _ hk) (by simp))⟩
 clear q0 q1 q2 v0 v1 v2 v3 v4 v5 v6 v7 v8 S NO
 obtain ⟨Ad,nd,cd,S,NO⟩:=hcut
 rcases hw:wellB a.has with _ | _
 ·obtain ⟨kk,-,-,hkk⟩:=wellN_no hw
  have hcode:m.code=3:=by rw [← HM.out,hkk]
  have HD:=hid (show decU b=.inl m from by rw [← HM.out,HD3.out];unfold decU3;rw [if_neg (fun e=>k2 (by rw [e];rfl)),if_pos hw])
  have y1:((m.code:Int) != 0)=true:=by rw [hcode];rfl
  clear hw hkk hcode HD3 k2 HM
  obtain ⟨q0,q1,q2⟩:=S.out.b3.cells
  obtain ⟨⟨p0,p1,p2⟩,KU,KN⟩:=S.out.pre #[.slice none 0 0,.int .i64 0,.int .i64 0,.slice none 0 0,.int .u32 0,.int .u32 0,.int .u32 0,.int .u32 0,.int .u32 0,.slice none 0 0,.slice none 0 0]
  go_upto_region 13 with fail
  go_cut [] (fun wx=>wx=endZ w wc.drew (.int .i64 m.code) (.int .i64 m.sub) (.slice Ad nd cd))
  case first =>
   refine wp_region_any (by kernel_rfl) ?_
   change wpAny _ _ _ _ _ _ _ (World.drew _)
   refine wpAny_take (i:=0) rfl (by kernel_rfl) (by kernel_rfl) (by kernel_rfl) (fun _ _ _ h=>h) (Or.inl ⟨by rfl,by intro w;go_simp;try with_reducible rfl⟩) ?_
   refine wpAny_ready (rs:=[1,2]) (by kernel_rfl) (by simp) ?_
   refine AllReady.cons rfl (fun K hK=>?_) (AllReady.cons rfl (fun K hK=>?_) AllReady.nil)
   focus
    go_simp
    refine hK _ _ ?_
    clear hK K
    refine wpAny_ready (rs:=[2]) (by kernel_rfl) (by simp) ?_
    refine AllReady.cons rfl (fun K hK=>?_) AllReady.nil
    rw [if_pos (by rfl)]
    refine wp_store_row 31 (.tmp 2) (.tmp 54) rfl w.heap.size _ rfl rfl _ _ KU.out (by kernel_rfl) rfl (by simp [Value.oneCell']) ?_
    refine hK _ _ ?_
    clear hK K
   rotate_left
   focus
    rw [if_pos (by rfl)]
    refine wp_store_row 31 (.tmp 2) (.tmp 54) rfl w.heap.size _ rfl rfl _ _ KU.out (by kernel_rfl) rfl (by simp [Value.oneCell']) ?_
    refine hK _ _ ?_
    clear hK K
    refine wpAny_ready (rs:=[1]) (by kernel_rfl) (by simp) ?_
    refine AllReady.cons rfl (fun K hK=>?_) AllReady.nil
    go_simp
    refine hK _ _ ?_
    clear hK K
   all_goals
    refine wpAny_ready (rs:=[3]) (by kernel_rfl) (by simp) ?_
    refine AllReady.cons rfl (fun K hK=>?_) AllReady.nil
    rw [if_pos (by rfl)]
    refine wp_store_row 34 (.tmp 3) (.tmp 55) rfl (w.heap.size+1) _ rfl rfl _ _ KN.out (by kernel_rfl) rfl (by simp [Value.oneCell']) ?_
    refine hK _ _ ?_
    clear hK K
    refine wpAny_done (by kernel_rfl) ?_ _
    go_wp2_with fail
    go_meet
    rfl
  subst hcut
  have RD:=hid (S.out.ud.ru.below (Below.refl _ wc).drew)
  have NO2:=hid (NO.out.keep (Below.refl _ wc).drew)
  obtain ⟨⟨r0,r1,r2,r3,r4,r5,r6,r7,r8,r9,r10⟩,t0,t1,t2⟩:=RD.out.finZ (.int .i64 m.code) (.int .i64 m.sub) (.slice Ad nd cd)
  clear KU KN p0 p1 p2 q0 q1 q2 S y1 NO
  have HEV:=hid (RD.out.badN HD.out NO2.out)
  generalize endZ w wc.drew (.int .i64 m.code) (.int .i64 m.sub) (.slice Ad nd cd)=WE at r0 r1 r2 r3 r4 r5 r6 r7 r8 r9 r10 t0 t1 t2 HEV ⊢
  go_wp2_with fail
  (try simp only [Exit.inBlock,Exit.then])
  refine bodyPost_ret (by simp [results,Tryz.results47,go_sem,r0,r1,r2,r3,r4,r5,r6,r7,r8,r9,r10,t0,t1,t2]) rfl HEV.out
 obtain rfl:m=⟨0,0,[]⟩:=HM.out.symm.trans (wellN_yes hw)
 have HD4:=hid (show decU b=(match dec val x4.l with | none=>.inl ⟨3,10,[]⟩ | some h=>.inr ⟨L,a,h⟩) from by rw [HD3.out];unfold decU3;rw [if_neg (fun e=>k2 (by rw [e];rfl)),if_neg (by rw [hw];decide)];cases dec val x4.l <;> rfl)
 replace S:=hid (show UpSt w z0.heap.size br x4 L Ag cg a 0 0 (.slice Ap np cp) (.slice Ac nc c3) (.slice Ad nd cd) X wc from S.out)
 replace NO:=hid (show Note wc (.agg #[.int .i64 0,.int .i64 0,.slice Ad nd cd]) ⟨0,0,[]⟩ from NO.out)
 clear hw HD3 HM k2
 obtain ⟨q0,q1,q2⟩:=S.out.b3.cells
 have CR:=hid (fun n br W (h:R W (w.heap.size+2) n (.pointer (some ⟨br,0,none⟩)) x4.l x4.b (fun k=>k=br))=>show Calls Tryz.prog 93 #[.pointer (some ⟨br,0,none⟩)] W (fun e w'=>∃ (y:Rd) (A:Option Addr) (c:Nat),e=.returned (.slice A x4.l.length c)∧U8s w' (.slice A x4.l.length c) x4.l∧R w' (w.heap.size+2) n (.pointer (some ⟨br,0,none⟩)) y.l y.b (fun k=>k=br)∧Only (fun k=>k=br) W w') from (rest_any _ _ n x4.l x4.b _ W (by omega) h).mono fun e w' ⟨A,c,k1,k2,k3,k4⟩=>by
  have eg:got x4.l x4.b x4.l.length=x4.l:=by rw [HB4.out,(fit_go (Nat.le_refl _)).2,List.take_length]
  rw [eg] at k1 k2
  exact ⟨x4.go x4.l.length,A,c,k1,k2,k3,k4⟩)
 have CD2:=hid (fun vv W (h:U8s W vv x4.l)=>(decode_own vv x4.l W h (by omega)).mono fun _ _ h=>decO_of h)
 focus go_upto_region 15 with (first
  | (have h:=S.out;go_at_call 93;refine (CR.out _ _ _ h.ud.rd).mono ?_;rintro e zr ⟨y,A6,c6,rfl,hU,hR,ho⟩;have S11:=hid (h.read (y:=y) hR ho);have NO11:=hid (show Note zr (.agg #[.int .i64 0,.int .i64 0,.slice Ad nd cd]) ⟨0,0,[]⟩ from note_nil (n:=⟨0,0,[]⟩) NO.out rfl);have U11:=hid hU;clear hU hR ho h S NO)
  | (have h:=S11.out;go_at_call 89;refine (CD2.out _ _ U11.out).mono ?_;rintro e z9 ⟨Ah,mh,ch,er2,rfl,hGO,hb⟩;have GH:=hid (hGO.lower h.ud.le);have S12:=hid (h.below hb);have NO12:=hid (NO11.out.keep hb);clear hGO hb h S11 U11 NO11))
 rcases GH.out with ⟨hd,rfl⟩ | ⟨H,Ah2,ch2,hd,rfl,hvh,hown,hokh⟩
 focus
  have HD:=hid (show decU b=.inl ⟨3,(10:Nat),[]⟩ from by rw [HD4.out,hd];rfl)
  have RU:=hid S12.out.ud.ru
  have FZ:=hid (fun W (h:RdU w W)=>h.finZ (.int .i64 3) (.int .i64 10) (.slice none 0 0))
  clear hd GH NO12 q0 q1 q2
 rotate_left
 injection hvh with hv1 hv2 hv3
 subst hv1 hv2 hv3
 have HH:=hid (And.intro hown hokh)
 have HD:=hid (show decU b=.inr ⟨L,a,H⟩ from by rw [HD4.out,hd])
 have S:=hid S12.out
 have NO:=hid NO12.out
 clear hd GH hown hokh HD4 S12 NO12 q0 q1 q2
 obtain ⟨q0,q1,q2⟩:=S.out.b3.cells
 obtain ⟨v0,v1,v2,v3,v4,v5,v6,v7,v8⟩:=S.out.b9.cells
 focus go_upto_region 17 with fail
 obtain ⟨⟨p0,p1,p2⟩,KU,KN⟩:=S.out.pre #[.slice Ag L.length cg,.int .i64 a.has,.int .i64 a.origin,.slice Ap np cp,.int .u32 a.hop,.int .u32 a.med,.int .u32 a.pref,.int .u32 a.aas,.int .u32 a.aid,.slice Ac nc c3,.slice Ah H.length ch]
 focus go_cut [] (fun wx=>wx=endU w z9.drew a (.slice Ag L.length cg) (.slice Ap np cp) (.slice Ac nc c3) (.slice Ah H.length ch) (.int .i64 0) (.int .i64 0) (.slice Ad nd cd))
 case first =>
  refine wp_region_any (by kernel_rfl) ?_
  change wpAny _ _ _ _ _ _ _ (World.drew _)
  refine wpAny_take (i:=0) rfl (by kernel_rfl) (by kernel_rfl) (by kernel_rfl) (fun _ _ _ h=>h) (Or.inl ⟨by rfl,by intro w;go_simp;try with_reducible rfl⟩) ?_
  refine wpAny_take (i:=2) rfl (by kernel_rfl) (by kernel_rfl) (by kernel_rfl) (fun _ _ _ h=>h) (Or.inl ⟨by rfl,by intro w;go_simp;try with_reducible rfl⟩) ?_
  refine wpAny_ready (rs:=[1,4]) (by kernel_rfl) (by simp) ?_
  refine AllReady.cons rfl (fun K hK=>?_) (AllReady.cons rfl (fun K hK=>?_) AllReady.nil)
  focus
   go_simp
   refine hK _ _ ?_
   clear hK K
   refine wpAny_take (i:=3) rfl (by kernel_rfl) (by kernel_rfl) (by kernel_rfl) (fun _ _ _ h=>h) (Or.inl ⟨by rfl,by intro w;go_simp;try with_reducible rfl⟩) ?_
   refine wpAny_ready (rs:=[4,5]) (by kernel_rfl) (by simp) ?_
   refine AllReady.cons rfl (fun K hK=>?_) (AllReady.cons rfl (fun K hK=>?_) AllReady.nil)
   focus
    go_simp
    refine hK _ _ ?_
    clear hK K
    refine wpAny_ready (rs:=[5]) (by kernel_rfl) (by simp) ?_
    refine AllReady.cons rfl (fun K hK=>?_) AllReady.nil
    rw [if_pos (by rfl)]
    refine wp_store_row 31 (.tmp 2) (.tmp 69) rfl w.heap.size _ rfl rfl _ _ KU.out (by kernel_rfl) rfl (by simp [Value.oneCell']) ?_
    refine hK _ _ ?_
    clear hK K
   rotate_left
   focus
    rw [if_pos (by rfl)]
    refine wp_store_row 31 (.tmp 2) (.tmp 69) rfl w.heap.size _ rfl rfl _ _ KU.out (by kernel_rfl) rfl (by simp [Value.oneCell']) ?_
    refine hK _ _ ?_
    clear hK K
    refine wpAny_ready (rs:=[4]) (by kernel_rfl) (by simp) ?_
    refine AllReady.cons rfl (fun K hK=>?_) AllReady.nil
    go_simp
    refine hK _ _ ?_
    clear hK K
  rotate_left 2
  focus
   go_simp
   refine hK _ _ ?_
   clear hK K
   refine wpAny_ready (rs:=[1]) (by kernel_rfl) (by simp) ?_
   refine AllReady.cons rfl (fun K hK=>?_) AllReady.nil
   go_simp
   refine hK _ _ ?_
   clear hK K
   refine wpAny_take (i:=3) rfl (by kernel_rfl) (by kernel_rfl) (by kernel_rfl) (fun _ _ _ h=>h) (Or.inl ⟨by rfl,by intro w;go_simp;try with_reducible rfl⟩) ?_
   refine wpAny_ready (rs:=[5]) (by kernel_rfl) (by simp) ?_
   refine AllReady.cons rfl (fun K hK=>?_) AllReady.nil
   rw [if_pos (by rfl)]
   refine wp_store_row 31 (.tmp 2) (.tmp 69) rfl w.heap.size _ rfl rfl _ _ KU.out (by kernel_rfl) rfl (by simp [Value.oneCell']) ?_
   refine hK _ _ ?_
   clear hK K
  all_goals
   refine wpAny_ready (rs:=[6]) (by kernel_rfl) (by simp) ?_
   refine AllReady.cons rfl (fun K hK=>?_) AllReady.nil
   rw [if_pos (by rfl)]
   refine wp_store_row 34 (.tmp 3) (.tmp 70) rfl (w.heap.size+1) _ rfl rfl _ _ KN.out (by kernel_rfl) rfl (by simp [Value.oneCell']) ?_
   refine hK _ _ ?_
   clear hK K
   refine wpAny_done (by kernel_rfl) ?_ _
   go_wp2_with fail
   go_meet
   rfl
 subst hcut
 have RD:=hid (S.out.ud.ru.below (Below.refl _ z9).drew)
 have NO2:=hid (NO.out.keep (Below.refl _ z9).drew)
 have hge:=S.out.ud.ge
 have HU:=hid (show UpdF z0.heap.size z9.drew (uV a (.slice Ag L.length cg) (.slice Ap np cp) (.slice Ac nc c3) (.slice Ah H.length ch)) ⟨L,a,H⟩ from updF_of (own_keep S.out.gone (Below.refl _ z9).drew) HOK.out (atF_keep S.out.attrs (Below.refl _ z9).drew) (own_keep HH.out.1 (Below.refl _ z9).drew) HH.out.2)
 obtain ⟨f0,f1,-⟩:=RD.out.fin a (.slice Ag L.length cg) (.slice Ap np cp) (.slice Ac nc c3) (.slice Ah H.length ch) (.int .i64 0) (.int .i64 0) (.slice Ad nd cd)
 obtain ⟨r0,r1,r2,r3,r4,r5,r6,r7,r8,r9,r10⟩:=f0.cells
 obtain ⟨t0,t1,t2⟩:=f1.cells
 clear f0 f1 KU KN p0 p1 p2 q0 q1 q2 S NO
 have HEV:=hid (RD.out.okN (b:=b) (u:=⟨L,a,H⟩) (base:=z0.heap.size) (by omega) HU.out NO2.out HD.out)
 dsimp only at HEV
 clear hge
 generalize endU w z9.drew a (.slice Ag L.length cg) (.slice Ap np cp) (.slice Ac nc c3) (.slice Ah H.length ch) (.int .i64 0) (.int .i64 0) (.slice Ad nd cd)=WE at r0 r1 r2 r3 r4 r5 r6 r7 r8 r9 r10 t0 t1 t2 HEV ⊢
 focus go_wp2_with fail
 (try simp only [Exit.inBlock,Exit.then])
 refine bodyPost_ret (by simp [results,Tryz.results47,go_sem,r0,r1,r2,r3,r4,r5,r6,r7,r8,r9,r10,t0,t1,t2]) rfl HEV.out
 all_goals
  go_wp2_with (first
   | (have h:=T5.out;go_at_call 85;refine (CBx.out _ _ _ h.rd).mono ?_;rintro e z6 ⟨rfl,hb⟩;replace RU:=hid (RU.out.below hb);clear hb h T5)
   | (go_at_call 91;refine (CF.out _ _).mono ?_;rintro e zf ⟨rfl,hb⟩;have SZ:=hid (RU.out.below hb);clear hb)
   | (have h:=SZ.out;refine wpList_store_row rfl 31 (.tmp 2) _ rfl w.heap.size _ rfl rfl _ _ h.ru.blk (by kernel_rfl) rfl (by simp [Value.oneCell']) ?_;clear h;have SM:=hid (SZ.out.mid #[.slice none 0 0,.int .i64 0,.int .i64 0,.slice none 0 0,.int .u32 0,.int .u32 0,.int .u32 0,.int .u32 0,.int .u32 0,.slice none 0 0,.slice none 0 0]))
   | (have h:=SM.out;refine wpList_store_row rfl 34 (.tmp 3) _ rfl (w.heap.size+1) _ rfl rfl _ _ h (by kernel_rfl) rfl (by simp [Value.oneCell']) ?_;clear h;clear SM))
  (try simp only [Exit.inBlock,Exit.then])
  obtain ⟨⟨r0,r1,r2,r3,r4,r5,r6,r7,r8,r9,r10⟩,t0,t1,t2⟩:=FZ.out _ SZ.out
  unfold endZ at r0 r1 r2 r3 r4 r5 r6 r7 r8 r9 r10 t0 t1 t2
  refine bodyPost_ret (by simp [results,Tryz.results47,go_sem,r0,r1,r2,r3,r4,r5,r6,r7,r8,r9,r10,t0,t1,t2]) rfl (SZ.out.bad0 HD.out rfl (by decide))
end Upd
end Go.Proofs.YtjfmompgkkdliaaGreatDoor
