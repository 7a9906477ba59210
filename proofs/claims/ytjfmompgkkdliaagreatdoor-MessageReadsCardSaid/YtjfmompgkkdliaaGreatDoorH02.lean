/- Part of the proof. -/
import Derived.Test.YtjfmompgkkdliaaGreatDoorH00
import Derived.Laws.BytesArg
import Derived.Lib.Strings
import Derived.Lib.SmallJoins
set_option maxRecDepth 100000
set_option maxHeartbeats 40000000
namespace Go.Proofs.YtjfmompgkkdliaaGreatDoor
namespace Oct
open Go.RowKit Mem
def cells8 (l:List Nat):List Value:=l.map fun n:Nat=>Value.int .u8 n
theorem cells8_len (l:List Nat):(cells8 l).length=l.length:=by simp [cells8]
theorem cells8_append (l m:List Nat):cells8 (l ++ m)=cells8 l ++ cells8 m:=by simp [cells8]
theorem cells8_take (l:List Nat) (k:Nat):(cells8 l).take k=cells8 (l.take k):=by simp [cells8]
theorem cells8_drop (l:List Nat) (k:Nat):(cells8 l).drop k=cells8 (l.drop k):=by simp [cells8]
theorem ones8 (l:List Nat):∀ u∈cells8 l,u.oneCell'=true:=fun u hu=>by
 obtain ⟨n,_,rfl⟩:=List.mem_map.1 hu
 rfl
def Small (l:List Nat):Prop:=∀ n∈l,n<256
theorem Small.take {l:List Nat} (h:Small l) (k:Nat):Small (l.take k):=fun n hn=>h n (List.mem_of_mem_take hn)
theorem Small.drop {l:List Nat} (h:Small l) (k:Nat):Small (l.drop k):=fun n hn=>h n (List.mem_of_mem_drop hn)
theorem Small.append {l m:List Nat} (h:Small l) (k:Small m):Small (l ++ m):=fun n hn=>(List.mem_append.1 hn).elim (h n) (k n)
theorem small_nil:Small []:=fun n h=>by simp at h
def U8s (w:World) (v:Value) (l:List Nat):Prop:=Row w 1 v l.length (cells8 l)∧Small l
section
variable {w w':World} {v:Value} {l:List Nat}
theorem U8s.keep (h:U8s w v l) (hb:Below w.heap.size w w'):U8s w' v l:=⟨h.1.keep hb,h.2⟩
theorem U8s.nil (w:World):U8s w (.slice none 0 0) []:=⟨Row.nil w 1,small_nil⟩
theorem U8s.of_own {base:Nat} {e:TypeId} (h:w.ownsRow base e 1 v l.length (cells8 l)) (hl:Small l):U8s w v l:=⟨Row.of_own h,hl⟩
theorem U8s.open_ (h:U8s w v l):∃ A c,v=.slice A l.length c∧l.length≤c∧c≤9223372036854775807∧Small l ∧
  ∀ k,k<l.length→∃ b off x,A=some ⟨b,off,none⟩∧b<w.heap.size∧l[k]?=some x∧x<256∧w.cell? ⟨b,off+k,none⟩=some (.int .u8 x):=by
 obtain ⟨⟨_,A,c,rfl,hn,hc,hr⟩,hl⟩:=h
 refine ⟨A,c,rfl,hn,hc,hl,fun k hk=>?_⟩
 obtain ⟨b,off,hA,hlt,hcell⟩:=hr (by omega)
 refine ⟨b,off,l[k],hA,hlt,List.getElem?_eq_getElem hk,hl _ (List.getElem_mem hk),hcell k _ ?_⟩
 unfold cells8
 rw [List.getElem?_map,List.getElem?_eq_getElem hk];rfl
theorem U8s.form (h:U8s w v l):∃ A c,v=.slice A l.length c∧l.length≤c∧c≤9223372036854775807:=by
 obtain ⟨A,c,h1,h2,h3,_⟩:=h.open_
 exact ⟨A,c,h1,h2,h3⟩
theorem U8s.at_ {A:Option Addr} {n c k:Nat} (h:U8s w (.slice A n c) l) (hk:k<l.length) :
  ∃ b off x,A=some ⟨b,off,none⟩∧b<w.heap.size∧l[k]?=some x∧x<256∧w.cell? ⟨b,off+k,none⟩=some (.int .u8 x):=by
 obtain ⟨A',c',e,_,_,_,hat⟩:=h.open_
 injection e with e1
 subst e1
 exact hat k hk
end
def txt (l:List Nat):ByteArray:=⟨(l.map UInt8.ofNat).toArray⟩
theorem txt_list (l:List Nat):(txt l).toList=l.map UInt8.ofNat:=by rw [Lib.toList_data];simp [txt]
theorem map_inj:∀ {l m:List Nat},Small l→Small m→l.map UInt8.ofNat=m.map UInt8.ofNat→l=m
 | [],[],_,_,_=>rfl
 | [],_ :: _,_,_,h=>by simp at h
 | _ :: _,[],_,_,h=>by simp at h
 | a :: l,b :: m,hl,hm,h=>by
  simp only [List.map_cons,List.cons.injEq] at h
  have h1:=hl a (by simp)
  have h2:=hm b (by simp)
  have h3:a=b:=by
   have:=congrArg UInt8.toNat h.1
   simp at this
   omega
  rw [h3,map_inj (fun n hn=>hl n (by simp [hn])) (fun n hn=>hm n (by simp [hn])) h.2]
theorem txt_eq {l m:List Nat} (hl:Small l) (hm:Small m):((txt l).toList == (txt m).toList)=decide (l=m):=by
 rw [txt_list,txt_list]
 by_cases h:l=m
 ·simp [h]
 ·rw [decide_eq_false h]
  simp only [beq_eq_false_iff_ne,ne_eq]
  exact fun e=>h (map_inj hl hm e)
theorem U8s.text {P:Program} {w:World} {v:Value} {l:List Nat} (h:U8s w v l) (s d e:TypeId) (hs:P.underlying s=some (.slice e)) (he:P.underlying e=some (.int .u8)) (hd:P.underlying d=some .string) :
  (convert s d v).run P w=.ok (.string (txt l)) w:=by
 obtain ⟨⟨hlen,A,c,rfl,hn,hc,hr⟩,hl⟩:=h
 have hx:strOfNums (l.map fun n:Nat=>(n:Int))=txt l:=by
  simp [strOfNums,txt,Function.comp_def]
 rcases Nat.eq_zero_or_pos l.length with h0 | h0
 ·obtain rfl:l=[]:=List.eq_nil_of_length_eq_zero h0
  cases A with
  | none=>rw [run_convert_bytes_nil w _ _ hs he _ c _ hd];rfl
  | some ad =>
   rw [run_convert_bytes_string w s d e _ _ c hs he hd,List.length_nil]
   rw [run_bytesToString w ad 0 c [] (run_loadCells_list w ad [] (by simp))]
   rfl
 ·obtain ⟨b,off,rfl,hlt,hcell⟩:=hr h0
  rw [run_convert_bytes_arg w _ _ hs he b off l.length c (l.map fun x:Nat=>(x:Int)) (by simp) (fun i hi=>by
   have:=hcell i (.int .u8 (l[i]:Nat)) (by simp [cells8,List.getElem?_eq_getElem hi])
   rw [this]
   simp [List.getD,List.getElem?_eq_getElem hi]) _ hd,hx]
structure Only (F:Nat→Prop) (W W':World):Prop where
 os:W'.os=W.os
 tape:W'.tape=W.tape
 output:W'.output=W.output
 size:W.heap.size≤W'.heap.size
 block:∀ k,k<W.heap.size→¬ F k→W'.heap[k]?=W.heap[k]?
theorem Only.below {F:Nat→Prop} {W W':World} {n:Nat} (h:Only F W W') (hn:∀ k,F k→n≤k) (hs:n≤W.heap.size):Below n W W' :=
 ⟨h.os,h.tape,h.output,h.size,fun k hk=>h.block k (by omega) (fun hf=>by have:=hn k hf;omega)⟩
theorem Only.of {F:Nat→Prop} {W W':World} (h:Below W.heap.size W W'):Only F W W':=⟨h.os,h.tape,h.output,h.size,fun k hk _=>h.block k hk⟩
theorem Only.trans {F:Nat→Prop} {a b c:World} (h:Only F a b) (k:Only F b c):Only F a c :=
 ⟨k.os.trans h.os,k.tape.trans h.tape,k.output.trans h.output,Nat.le_trans h.size k.size,fun j hj hf=>(k.block j (Nat.lt_of_lt_of_le hj h.size) hf).trans (h.block j hj hf)⟩
theorem Only.more {F G:Nat→Prop} {a b:World} (h:Only F a b) (hg:∀ k,F k→G k):Only G a b :=
 ⟨h.os,h.tape,h.output,h.size,fun j hj hf=>h.block j hj (fun k=>hf (hg j k))⟩
def Lies (n:Nat) (F:Nat→Prop) (s:Value):Prop:=∀ g,s.ownBlock=some g→g<n∧¬ F g
theorem U8s.part {w w':World} {v:Value} {l:List Nat} (h:U8s w v l) (hv:∀ g,v.ownBlock=some g→w'.heap[g]?=w.heap[g]?) (hs:w.heap.size≤w'.heap.size):U8s w' v l:=by
 obtain ⟨⟨hl,A,c,rfl,hn,hc,hr⟩,hsm⟩:=h
 refine ⟨⟨hl,A,c,rfl,hn,hc,fun h0=>?_⟩,hsm⟩
 obtain ⟨b,off,hA,hlt,hcell⟩:=hr h0
 refine ⟨b,off,hA,Nat.lt_of_lt_of_le hlt hs,fun i x hx=>?_⟩
 subst hA
 have h1:=hv b rfl
 have h2:=hcell i x hx
 unfold World.cell? at h2 ⊢
 simp only [h1]
 exact h2
theorem Only.refl (F:Nat→Prop) (W:World):Only F W W:=⟨rfl,rfl,rfl,Nat.le_refl _,fun _ _ _=>rfl⟩
theorem Only.set {F:Nat→Prop} {W W':World} (h:Only F W W') {b i:Nat} (hb:F b) (u:Value):Only F W (W'.setCell ⟨b,i,none⟩ u) :=
 ⟨h.os,h.tape,h.output,by simpa [World.setCell] using h.size,fun k hk hf=>(Go.RowKit.Below.heap_setCell _ _ _ _ (fun e=>hf (by rw [e];exact hb))).trans (h.block k hk hf)⟩
theorem Only.drew {F:Nat→Prop} {W W':World} (h:Only F W W'):Only F W W'.drew:=⟨h.os,h.tape,h.output,h.size,h.block⟩
theorem set0 {W:World} {b:Nat} {x y:Value} {t:TypeId} (u:Value) (h:W.heap[b]?=some (.cells #[x,y] t)):(W.setCell ⟨b,0,none⟩ u).heap[b]?=some (.cells #[u,y] t):=by
 rw [Go.Joins.block_setCell h];rfl
theorem set1 {W:World} {b:Nat} {x y:Value} {t:TypeId} (u:Value) (h:W.heap[b]?=some (.cells #[x,y] t)):(W.setCell ⟨b,1,none⟩ u).heap[b]?=some (.cells #[x,u] t):=by
 rw [Go.Joins.block_setCell h];rfl
theorem U8s.prefix_ {w:World} {l:List Nat} {A:Option Addr} {n c k d:Nat} (h:U8s w (.slice A n c) l) (hk:k≤l.length) (hd:k≤d) (hm:d≤maxLen):U8s w (.slice A k d) (l.take k):=by
 obtain ⟨⟨hl,A',c',e,hn,hc,hr⟩,hs⟩:=h
 injection e with e1 e2 e3
 subst e1 e3
 have hlen:(l.take k).length=k:=by rw [List.length_take];omega
 refine ⟨⟨by rw [cells8_len,Nat.mul_one],A,d,by rw [hlen],by rw [hlen];exact hd,hm,fun h0=>?_⟩,hs.take k⟩
 obtain ⟨b,off,hA,hlt,hcell⟩:=hr (by omega)
 refine ⟨b,off,hA,hlt,fun i x hx=>hcell i x ?_⟩
 rw [← cells8_take,List.getElem?_take] at hx
 split at hx
 ·exact hx
 ·cases hx
theorem U8s.cut {w:World} {l:List Nat} {A:Option Addr} {c k:Nat} (h:U8s w (.slice A l.length c) l) (hk:k≤l.length) :
  U8s w (.slice (if c=k then A else A.map (fun x=>x.add k)) (l.length - k) (c - k)) (l.drop k):=by
 have h1:=Row.cut1 (k:=k) h.1 hk
 rw [cells8_drop] at h1
 exact ⟨by rw [List.length_drop];exact h1,h.2.drop k⟩
theorem own_at {A:Option Addr} {m d m' d' g:Nat} (h:(Value.slice A m d).ownBlock=some g):(Value.slice A m' d').ownBlock=some g:=by cases A <;> exact h
theorem cut_own {A:Option Addr} {c k m d m' d' g:Nat} (h:(Value.slice (if c=k then A else A.map (fun x=>x.add k)) m d).ownBlock=some g):(Value.slice A m' d').ownBlock=some g:=by
 cases A with
 | none=>simp [Value.ownBlock] at h
 | some a =>
  split at h
  ·exact h
  ·simp only [Option.map,Value.ownBlock] at h ⊢
   rw [← h]
   unfold Addr.add
   split <;> rfl
end Oct
namespace Att
open Go.RowKit Mem Segm Oct
structure At where
 has:Int
 origin:Int
 path:List Piece
 hop:Nat
 med:Nat
 pref:Nat
 aas:Nat
 aid:Nat
 comms:List Nat
def At.ok (a:At):Prop:=(Lit.int .i64 a.has).wf=true∧(Lit.int .i64 a.origin).wf=true∧a.hop<4294967296∧a.med<4294967296∧a.pref<4294967296∧a.aas<4294967296∧a.aid<4294967296
def acells (a:At) (vp vc:Value):List Value:=[.int .i64 a.has,.int .i64 a.origin,vp,.int .u32 a.hop,.int .u32 a.med,.int .u32 a.pref,.int .u32 a.aas,.int .u32 a.aid,vc]
def zeroA:At:=⟨0,0,[],0,0,0,0,0,[]⟩
theorem zeroA_ok:zeroA.ok:=by unfold zeroA At.ok;decide
def Attrs (W:World) (v:Value) (a:At):Prop:=a.ok∧∃ vp vc,v=.agg (acells a vp vc).toArray∧Segs W vp a.path∧U32s W vc a.comms
theorem Attrs.keep {W W':World} {v:Value} {a:At} (h:Attrs W v a) (hb:Below W.heap.size W W'):Attrs W' v a:=by
 obtain ⟨h0,vp,vc,h1,h2,h3⟩:=h
 exact ⟨h0,vp,vc,h1,h2.keep hb,h3.keep hb⟩
theorem attrs_zero (W:World):Attrs W (.agg #[.int .i64 0,.int .i64 0,.slice none 0 0,.int .u32 0,.int .u32 0,.int .u32 0,.int .u32 0,.int .u32 0,.slice none 0 0]) zeroA :=
 ⟨zeroA_ok,.slice none 0 0,.slice none 0 0,rfl,⟨[],Row.nil W 2,Nums32.nil W⟩,U32s.nil W⟩
structure Box9 (W:World) (B:Nat) (t:TypeId) (x0 x1 x2 x3 x4 x5 x6 x7 x8:Value):Prop where
 blk:W.heap[B]?=some (.cells #[x0,x1,x2,x3,x4,x5,x6,x7,x8] t (0,0))
section
variable {W W':World} {B:Nat} {t:TypeId} {x0 x1 x2 x3 x4 x5 x6 x7 x8:Value}
theorem Box9.new (W:World) (t:TypeId) (x0 x1 x2 x3 x4 x5 x6 x7 x8:Value):Box9 (W.alloc (.cells #[x0,x1,x2,x3,x4,x5,x6,x7,x8] t)) W.heap.size t x0 x1 x2 x3 x4 x5 x6 x7 x8:=⟨heap_alloc_new _ _⟩
theorem Box9.lt (h:Box9 W B t x0 x1 x2 x3 x4 x5 x6 x7 x8):B<W.heap.size:=(Array.getElem?_eq_some_iff.1 h.blk).1
theorem Box9.keep (h:Box9 W B t x0 x1 x2 x3 x4 x5 x6 x7 x8) (hb:Below W.heap.size W W'):Box9 W' B t x0 x1 x2 x3 x4 x5 x6 x7 x8:=⟨(hb.block B h.lt).trans h.blk⟩
theorem Box9.cells (h:Box9 W B t x0 x1 x2 x3 x4 x5 x6 x7 x8):W.cell? ⟨B,0,none⟩=some x0∧W.cell? ⟨B,1,none⟩=some x1∧W.cell? ⟨B,2,none⟩=some x2∧W.cell? ⟨B,3,none⟩=some x3∧W.cell? ⟨B,4,none⟩=some x4∧W.cell? ⟨B,5,none⟩=some x5∧W.cell? ⟨B,6,none⟩=some x6∧W.cell? ⟨B,7,none⟩=some x7∧W.cell? ⟨B,8,none⟩=some x8:=by
 have hb:=h.blk
 simp [World.cell?,hb]
theorem Box9.free (h:Box9 W B t x0 x1 x2 x3 x4 x5 x6 x7 x8) (i:Nat):W.frozen? ⟨B,i,none⟩=false:=Go.Joins.unfrozen_of_block h.blk i
end
def hasB (h:Int) (k:Int):Bool:=decide (0≤k) && decide (k<30) && (h / 2 ^ k.toNat % 2 == 1)
theorem hasB_low {h k:Int} (hk:k<0):hasB h k=false:=by
 unfold hasB
 rw [decide_eq_false (by omega)];rfl
theorem hasB_high {h k:Int} (hk:30≤k):hasB h k=false:=by
 unfold hasB
 rw [decide_eq_false (show ¬ k<30 by omega)];simp
theorem hasB_in {h:Int} {k:Nat} (hk:k<30):hasB h (k:Int)=(h / 2 ^ k % 2 == 1):=by
 unfold hasB
 rw [decide_eq_true (by omega),decide_eq_true (by omega),Int.toNat_natCast];rfl
theorem and_one (n:Int):bits .and .i64 n 1=n % 2:=by
 have hm:(BitVec.ofInt 64 1).toNat=2 ^ 1 - 1:=by decide
 have hk:(BitVec.ofInt 64 n &&& BitVec.ofInt 64 1).toNat=(n % ((2 ^ 64:Nat):Int)).toNat % 2 ^ 1:=by
  rw [BitVec.toNat_and,hm,Nat.and_two_pow_sub_one_eq_mod,BitVec.toNat_ofInt]
 show IntKind.i64.wrap ((BitVec.ofInt 64 n &&& BitVec.ofInt 64 1).toNat:Nat)=n % 2
 rw [hk,IntKind.wrap_i64]
 omega
def hasUpto (h:Int):Nat→Nat
 | 0=>0
 | k+1=>hasUpto h k+if hasB h ((k+1:Nat):Int) then 2 ^ (k+1) else 0
theorem hasUpto_le (h:Int):∀ k,hasUpto h k<2 ^ (k+1)
 | 0=>by simp [hasUpto]
 | k+1=>by
  have ih:=hasUpto_le h k
  have e:2 ^ (k+1+1)=2 ^ (k+1)+2 ^ (k+1):=by rw [Nat.pow_succ];omega
  unfold hasUpto
  rw [e]
  split <;> omega
end Att
namespace Att
open Go.RowKit Mem
theorem ofInt_nat (n:Int):(BitVec.ofInt 64 n).toNat=(n % 18446744073709551616).toNat:=by rw [BitVec.toNat_ofInt];rfl
theorem wrap_low {n:Nat} (h:n<4611686018427387904):IntKind.i64.wrap (n:Int)=(n:Int):=by rw [IntKind.wrap_i64];omega
theorem nat_and_pow (x k:Nat):x &&& 2 ^ k=if x / 2 ^ k % 2=1 then 2 ^ k else 0:=by
 apply Nat.eq_of_testBit_eq
 intro i
 rw [Nat.testBit_and,Nat.testBit_two_pow]
 by_cases hi:k=i
 ·subst hi
  rw [Nat.testBit_eq_decide_div_mod_eq]
  by_cases hc:x / 2 ^ k % 2=1
  ·rw [if_pos hc,decide_eq_true hc,Nat.testBit_two_pow]
   rfl
  ·rw [if_neg hc,decide_eq_false hc]
   simp
 ·rw [decide_eq_false hi,Bool.and_false]
  split
  ·rw [Nat.testBit_two_pow,decide_eq_false hi]
  ·simp
theorem and_pow (h:Int) (k:Nat) (hk:k≤8):bits .and .i64 h (2 ^ k)=if h / 2 ^ k % 2=1 then 2 ^ k else 0:=by
 have h2:2 ^ k≤256:=Nat.le_trans (Nat.pow_le_pow_right (by omega) hk) (by decide)
 have e2:(BitVec.ofInt 64 (2 ^ k)).toNat=2 ^ k:=by
  rw [ofInt_nat]
  have h1:(2:Int) ^ k=((2 ^ k:Nat):Int):=by simp
  rw [h1]
  generalize 2 ^ k=y at h2
  omega
 show IntKind.i64.wrap ((BitVec.ofInt 64 h &&& BitVec.ofInt 64 (2 ^ k)).toNat:Nat)=_
 rw [BitVec.toNat_and,e2,ofInt_nat]
 generalize hx:(h % 18446744073709551616).toNat=x
 rw [nat_and_pow]
 have hb:x / 2 ^ k % 2=1 ↔ h / 2 ^ k % 2=1:=by
  have hx0:(x:Int)=h % 18446744073709551616:=by omega
  have hk2:k=0∨k=1∨k=2∨k=3∨k=4∨k=5∨k=6∨k=7∨k=8:=by omega
  rcases hk2 with rfl | rfl | rfl | rfl | rfl | rfl | rfl | rfl | rfl <;> simp only [Nat.reducePow,Int.reducePow] <;> omega
 by_cases hc:h / 2 ^ k % 2=1
 ·rw [if_pos hc,if_pos (hb.2 hc),wrap_low (by omega)]
  simp
 ·rw [if_neg hc,if_neg (fun h=>hc (hb.1 h))]
  exact wrap_low (by omega)
theorem and_pow_has (h:Int) (k:Nat) (hk:k≤8):(bits .and .i64 h (2 ^ k) != 0)=hasB h (k:Int):=by
 rw [and_pow h k hk,hasB_in (by omega)]
 by_cases hc:h / 2 ^ k % 2=1
 ·rw [if_pos hc,hc]
  have:(2:Int) ^ k≠0:=by
   have h1:(2:Int) ^ k=((2 ^ k:Nat):Int):=by simp
   have:=Nat.two_pow_pos k
   omega
  simp [this]
 ·rw [if_neg hc]
  simp [hc]
theorem low510:∀ y,y<512→y &&& 510=y - y % 2:=by decide +kernel
theorem hasUpto_nat {h:Int} {x:Nat} (H:∀ k:Nat,1≤k→k≤8→hasB h (k:Int)=(x / 2 ^ k % 2 == 1)):∀ k,k≤8→hasUpto h k=x % 2 ^ (k+1) - x % 2
 | 0,_=>by simp [hasUpto]
 | k+1,hk=>by
  have ih:=hasUpto_nat H k (by omega)
  have e1:x % 2 ^ (k+1+1)=x % 2 ^ (k+1)+2 ^ (k+1)*(x / 2 ^ (k+1) % 2):=by rw [Nat.pow_succ 2 (k+1),Nat.mod_mul]
  have e2:x % 2≤x % 2 ^ (k+1):=by
   have h1:=Nat.mod_mod_of_dvd x (show 2 ∣ 2 ^ (k+1) from ⟨2 ^ k,by rw [Nat.pow_succ,Nat.mul_comm]⟩)
   rw [← h1]
   exact Nat.mod_le _ _
  show hasUpto h k+_=_
  rw [H (k+1) (by omega) hk,ih,e1]
  by_cases hd:x / 2 ^ (k+1) % 2=1
  ·rw [if_pos (by simp [hd]),hd];omega
  ·rw [if_neg (by simp [hd]),show x / 2 ^ (k+1) % 2=0 by omega];omega
theorem and_510 (h:Int):bits .and .i64 h 510=(hasUpto h 8:Nat):=by
 show IntKind.i64.wrap ((BitVec.ofInt 64 h &&& BitVec.ofInt 64 510).toNat:Nat)=_
 rw [BitVec.toNat_and,ofInt_nat,show (BitVec.ofInt 64 510).toNat=511 &&& 510 by decide,← Nat.and_assoc]
 rw [show (511:Nat)=2 ^ 9 - 1 by decide,Nat.and_two_pow_sub_one_eq_mod,low510 _ (Nat.mod_lt _ (by decide))]
 generalize hx:(h % 18446744073709551616).toNat=x
 have H:=hasUpto_nat (h:=h) (x:=x) (fun k h1 h8=>by
  rw [hasB_in (by omega)]
  have hx0:(x:Int)=h % 18446744073709551616:=by omega
  have hk2:k=1∨k=2∨k=3∨k=4∨k=5∨k=6∨k=7∨k=8:=by omega
  have e:h / 2 ^ k % 2=((x / 2 ^ k % 2:Nat):Int):=by
   rcases hk2 with rfl | rfl | rfl | rfl | rfl | rfl | rfl | rfl <;> simp only [Nat.reducePow,Int.reducePow] <;> omega
  rw [e]
  by_cases hd:x / 2 ^ k % 2=1
  ·rw [hd];rfl
  ·rw [show x / 2 ^ k % 2=0 by omega];rfl) 8 (by omega)
 rw [H]
 simp only [Nat.reduceAdd,Nat.reducePow]
 rw [show x % 512 % 2=x % 2 by omega]
 exact wrap_low (by omega)
theorem byte16:∀ f:Nat,f<256→bits .and .i64 (f:Int) 16=if f / 16 % 2=1 then 16 else 0:=by decide +kernel
theorem byte32:∀ f:Nat,f<256→bits .and .i64 (f:Int) 32=if f / 32 % 2=1 then 32 else 0:=by decide +kernel
theorem byte128:∀ f:Nat,f<256→bits .and .i64 (f:Int) 128=if f<128 then 0 else 128:=by decide +kernel
theorem not16:∀ f:Nat,f<256→bits .andNot .i64 (f:Int) 16=((if f / 16 % 2=1 then f - 16 else f:Nat):Int):=by decide +kernel
theorem or192:bits .or .i64 192 32=224∧bits .or .i64 192 0=192:=by decide +kernel
end Att
namespace Att
open Go.RowKit Mem Oct
structure Box3 (W:World) (B:Nat) (t:TypeId) (x y z:Value):Prop where
 blk:W.heap[B]?=some (.cells #[x,y,z] t (0,0))
section
variable {W W':World} {B:Nat} {t:TypeId} {x y z:Value}
theorem Box3.lt (h:Box3 W B t x y z):B<W.heap.size:=(Array.getElem?_eq_some_iff.1 h.blk).1
theorem Box3.keep (h:Box3 W B t x y z) (hb:Below W.heap.size W W'):Box3 W' B t x y z:=⟨(hb.block B h.lt).trans h.blk⟩
theorem Box3.cells (h:Box3 W B t x y z):W.cell? ⟨B,0,none⟩=some x∧W.cell? ⟨B,1,none⟩=some y∧W.cell? ⟨B,2,none⟩=some z:=by
 have hb:=h.blk
 simp [World.cell?,hb]
theorem Box3.free (h:Box3 W B t x y z) (i:Nat):W.frozen? ⟨B,i,none⟩=false:=Go.Joins.unfrozen_of_block h.blk i
theorem Box3.new (W:World) (t:TypeId) (x y z:Value):Box3 (W.alloc (.cells #[x,y,z] t)) W.heap.size t x y z:=⟨heap_alloc_new _ _⟩
theorem Box3.set0 (h:Box3 W B t x y z) (v:Value):Box3 (W.setCell ⟨B,0,none⟩ v) B t v y z:=⟨by rw [Go.Joins.block_setCell h.blk];rfl⟩
theorem Box3.set1 (h:Box3 W B t x y z) (v:Value):Box3 (W.setCell ⟨B,1,none⟩ v) B t x v z:=⟨by rw [Go.Joins.block_setCell h.blk];rfl⟩
theorem Box3.set2 (h:Box3 W B t x y z) (v:Value):Box3 (W.setCell ⟨B,2,none⟩ v) B t x y v:=⟨by rw [Go.Joins.block_setCell h.blk];rfl⟩
theorem Box3.far {C i:Nat} (h:Box3 W B t x y z) (hne:B≠C) (v:Value):Box3 (W.setCell ⟨C,i,none⟩ v) B t x y z:=⟨(Go.RowKit.Below.heap_setCell _ _ _ _ hne).trans h.blk⟩
theorem Box3.below (h:Box3 W B t x y z) (hb:∀ k,k=B→W'.heap[k]?=W.heap[k]?):Box3 W' B t x y z:=⟨(hb B rfl).trans h.blk⟩
end
def three (W:World) (B:Nat) (x y z:Value):World:=((W.setCell ⟨B,0,none⟩ x).setCell ⟨B,1,none⟩ y).setCell ⟨B,2,none⟩ z
theorem three_off (W:World) (B:Nat) (x y z:Value):(∀ k,k≠B→(three W B x y z).heap[k]?=W.heap[k]?)∧W.heap.size≤(three W B x y z).heap.size:=by
 refine ⟨fun k hk=>?_,by simp [three]⟩
 have hne:∀ i:Nat,k≠(⟨B,i,none⟩:Addr).block:=fun i=>hk
 unfold three
 simp only [Go.RowKit.Below.heap_setCell _ _ _ _ (hne _)]
theorem three_low {w W:World} {n:Nat} (h:Below n w W) (B:Nat) (hB:n≤B) (x y z:Value):Below n w (three W B x y z):=by
 unfold three
 exact ((h.setCell (p:=⟨B,0,none⟩) hB x).setCell (p:=⟨B,1,none⟩) hB y).setCell (p:=⟨B,2,none⟩) hB z
theorem Box3.laid {W:World} {B:Nat} {t:TypeId} {x y z:Value} (h:Box3 W B t x y z) (x' y' z':Value):Box3 (three W B x' y' z') B t x' y' z':=((h.set0 x').set1 y').set2 z'
structure Box4 (W:World) (B:Nat) (t:TypeId) (x y z u:Value):Prop where
 blk:W.heap[B]?=some (.cells #[x,y,z,u] t (0,0))
section
variable {W W':World} {B:Nat} {t:TypeId} {x y z u:Value}
theorem Box4.lt (h:Box4 W B t x y z u):B<W.heap.size:=(Array.getElem?_eq_some_iff.1 h.blk).1
theorem Box4.keep (h:Box4 W B t x y z u) (hb:Below W.heap.size W W'):Box4 W' B t x y z u:=⟨(hb.block B h.lt).trans h.blk⟩
theorem Box4.cells (h:Box4 W B t x y z u):W.cell? ⟨B,0,none⟩=some x∧W.cell? ⟨B,1,none⟩=some y∧W.cell? ⟨B,2,none⟩=some z∧W.cell? ⟨B,3,none⟩=some u:=by
 have hb:=h.blk
 simp [World.cell?,hb]
theorem Box4.free (h:Box4 W B t x y z u) (i:Nat):W.frozen? ⟨B,i,none⟩=false:=Go.Joins.unfrozen_of_block h.blk i
theorem Box4.new (W:World) (t:TypeId) (x y z u:Value):Box4 (W.alloc (.cells #[x,y,z,u] t)) W.heap.size t x y z u:=⟨heap_alloc_new _ _⟩
theorem Box4.set0 (h:Box4 W B t x y z u) (v:Value):Box4 (W.setCell ⟨B,0,none⟩ v) B t v y z u:=⟨by rw [Go.Joins.block_setCell h.blk];rfl⟩
theorem Box4.set1 (h:Box4 W B t x y z u) (v:Value):Box4 (W.setCell ⟨B,1,none⟩ v) B t x v z u:=⟨by rw [Go.Joins.block_setCell h.blk];rfl⟩
theorem Box4.set2 (h:Box4 W B t x y z u) (v:Value):Box4 (W.setCell ⟨B,2,none⟩ v) B t x y v u:=⟨by rw [Go.Joins.block_setCell h.blk];rfl⟩
theorem Box4.set3 (h:Box4 W B t x y z u) (v:Value):Box4 (W.setCell ⟨B,3,none⟩ v) B t x y z v:=⟨by rw [Go.Joins.block_setCell h.blk];rfl⟩
theorem Box4.far {C i:Nat} (h:Box4 W B t x y z u) (hne:B≠C) (v:Value):Box4 (W.setCell ⟨C,i,none⟩ v) B t x y z u:=⟨(Go.RowKit.Below.heap_setCell _ _ _ _ hne).trans h.blk⟩
end
def four (W:World) (B:Nat) (x y z u:Value):World:=(((W.setCell ⟨B,0,none⟩ x).setCell ⟨B,1,none⟩ y).setCell ⟨B,2,none⟩ z).setCell ⟨B,3,none⟩ u
theorem four_off (W:World) (B:Nat) (x y z u:Value):(∀ k,k≠B→(four W B x y z u).heap[k]?=W.heap[k]?)∧W.heap.size≤(four W B x y z u).heap.size:=by
 refine ⟨fun k hk=>?_,by simp [four]⟩
 have hne:∀ i:Nat,k≠(⟨B,i,none⟩:Addr).block:=fun i=>hk
 unfold four
 simp only [Go.RowKit.Below.heap_setCell _ _ _ _ (hne _)]
theorem four_low {w W:World} {n:Nat} (h:Below n w W) (B:Nat) (hB:n≤B) (x y z u:Value):Below n w (four W B x y z u):=by
 unfold four
 exact (((h.setCell (p:=⟨B,0,none⟩) hB x).setCell (p:=⟨B,1,none⟩) hB y).setCell (p:=⟨B,2,none⟩) hB z).setCell (p:=⟨B,3,none⟩) hB u
theorem Box4.laid {W:World} {B:Nat} {t:TypeId} {x y z u:Value} (h:Box4 W B t x y z u) (x' y' z' u':Value):Box4 (four W B x' y' z' u') B t x' y' z' u':=(((h.set0 x').set1 y').set2 z').set3 u'
end Att
namespace Att
open Go.RowKit Mem Oct
theorem drop_two {b:List Nat} {j a c:Nat} (ha:b[j]?=some a) (hc:b[j+1]?=some c):b.drop j=a :: c :: b.drop (j+2):=by
 obtain ⟨h1,e1⟩:=List.getElem?_eq_some_iff.1 ha
 obtain ⟨h2,e2⟩:=List.getElem?_eq_some_iff.1 hc
 rw [List.drop_eq_getElem_cons h1,List.drop_eq_getElem_cons h2,e1,e2]
theorem drop_one {b:List Nat} {j:Nat} (h1:j<b.length) (h2:b.length<j+2):∃ a,b.drop j=[a]:=by
 refine ⟨b[j],?_⟩
 rw [List.drop_eq_getElem_cons h1,List.drop_of_length_le (by omega)]
theorem two_at {w:World} {l:List Nat} {A:Option Addr} {n c k:Nat} (h:U8s w (.slice A n c) l) (hk:k+1<l.length) :
  ∃ b off x y,A=some ⟨b,off,none⟩∧b<w.heap.size∧l[k]?=some x∧x<256∧w.cell? ⟨b,off+k,none⟩=some (.int .u8 x)∧l[k+1]?=some y∧y<256∧w.cell? ⟨b,off+(k+1),none⟩=some (.int .u8 y):=by
 obtain ⟨b,off,x,e,h1,h2,h3,h4⟩:=h.at_ (k:=k) (by omega)
 obtain ⟨b',off',y,e',-,g2,g3,g4⟩:=h.at_ hk
 rw [e] at e'
 injection e' with e'
 injection e' with e1 e2
 subst e1 e2
 exact ⟨b,off,x,y,e,h1,h2,h3,h4,g2,g3,g4⟩
theorem mid_any {w:World} {l:List Nat} {b off c i m:Nat} (h:U8s w (.slice (some ⟨b,off,none⟩) l.length c) l) (hi:i+m≤l.length) (hlt:i<l.length∨i<c:=by omega):U8s w (.slice (some ⟨b,off+i,none⟩) m (c - i)) ((l.drop i).take m):=by
 obtain ⟨A,c',e,h1,h2⟩:=h.form
 injection e with e1 e2 e3
 subst e3
 have h3:=h.cut (k:=i) (by omega)
 rw [if_neg (by omega)] at h3
 have h4:U8s w (.slice (some ⟨b,off+i,none⟩) (l.length - i) (c - i)) (l.drop i):=by
  by_cases h0:i=0
  ·subst h0;simpa [Addr.add] using h3
  ·simpa [Addr.add,h0] using h3
 exact h4.prefix_ (k:=m) (d:=c - i) (by rw [List.length_drop];omega) (by omega) (by unfold maxLen;omega)
end Att
end Go.Proofs.YtjfmompgkkdliaaGreatDoor
