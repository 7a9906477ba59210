/- Part of the proof. -/
import Derived.Test.YtjfmompgkkdliaaGreatDoorH04
import Derived.Test.YtjfmompgkkdliaaGreatDoorH12
import Derived.Test.YtjfmompgkkdliaaGreatDoorH03
import Derived.Deep.DeepCutAuto
import Derived.Test.YtjfmompgkkdliaaGreatDoorH41
open Go.Lib (hid)
set_option maxRecDepth 100000
set_option maxHeartbeats 40000000
namespace Go.Proofs.YtjfmompgkkdliaaGreatDoor
namespace Frm
open Go.RowKit Mem Oct Att Ahead
open Go.Lib (hid)
theorem u8_stays {W W':World} {v:Value} {l:List Nat} {b:Nat} (h:U8s W v l) (hB:∀ i n,W.cell? ⟨b,i,none⟩≠some (.int .u8 n)) (ho:Only (fun k=>k=b) W W'):U8s W' v l:=by
 obtain ⟨⟨hl,A,c,rfl,hm,hc,hr⟩,hsm⟩:=h
 refine ⟨⟨hl,A,c,rfl,hm,hc,fun h0=>?_⟩,hsm⟩
 obtain ⟨b',off,rfl,hlt,hcell⟩:=hr h0
 have hx:=List.getElem?_eq_getElem h0
 have hne:b'≠b:=fun e=>by
  subst e
  exact hB _ _ (hcell 0 (.int .u8 l[0]) (by unfold cells8;rw [List.getElem?_map,hx];rfl))
 refine ⟨b',off,rfl,Nat.lt_of_lt_of_le hlt ho.size,fun i y hy=>?_⟩
 rw [← hcell i y hy]
 exact World.cell?_of_block (ho.block b' hlt hne)
theorem R.no8 {W:World} {base n:Nat} {b:Nat} {l:List Nat} {bad:Bool} (h:R W base n (.pointer (some ⟨b,0,none⟩)) l bad (fun k=>k=b)) (i:Nat) (m:Int):W.cell? ⟨b,i,none⟩≠some (.int .u8 m):=by
 rcases h with ⟨h,_⟩ | ⟨b',s,e,-,-,-,hb,hu,-⟩
 ·cases h
 ·injection e with e
  injection e with e
  injection e with e
  subst e
  obtain ⟨A,c,rfl,-,-⟩:=hu.form
  exact no8_cells hb (fun u hu=>by
   have:u=.slice A l.length c∨u=.bool bad:=by simpa using hu
   rcases this with rfl | rfl
   ·exact no8_s _ _ _
   ·exact no8_b _) i m
structure JgSt (w:World) (b n:Nat) (l:List Nat) (W:World):Prop where
 box:Box3 W w.heap.size 34 (.int .i64 0) (.int .i64 0) (.slice none 0 0)
 low:Below w.heap.size w W
 rd:R W (w.heap.size+1) n (.pointer (some ⟨b,0,none⟩)) l false (fun k=>k=b)
 at_:w.heap.size<b
section
variable {w W W2:World} {b n:Nat} {l m:List Nat}
theorem JgSt.read (h:JgSt w b n l W) (hr:R W2 (w.heap.size+1) n (.pointer (some ⟨b,0,none⟩)) m false (fun k=>k=b)) (ho:Only (fun k=>k=b) W W2):JgSt w b n m W2 :=
 ⟨h.box.below (fun k hk=>ho.block k (by rw [hk];exact h.box.lt) (fun e=>by have:=h.at_;omega)),h.low.trans (ho.below (fun k hk=>by have:=h.at_;omega) h.low.size),hr,h.at_⟩
end
theorem jg_start {w W2:World} {b:Nat} {l:List Nat} (hr:R W2 (w.alloc (.cells #[.int .i64 0,.int .i64 0,.slice none 0 0] 34)).heap.size W2.heap.size (.pointer (some ⟨b,0,none⟩)) l false (fun k=>k=b)) (hb:Below (w.alloc (.cells #[.int .i64 0,.int .i64 0,.slice none 0 0] 34)).heap.size (w.alloc (.cells #[.int .i64 0,.int .i64 0,.slice none 0 0] 34)) W2):JgSt w b W2.heap.size l W2:=by
 have h1:=box_low w (.int .i64 0) (.int .i64 0) (.slice none 0 0)
 have e:(w.alloc (.cells #[.int .i64 0,.int .i64 0,.slice none 0 0] 34)).heap.size=w.heap.size+1:=by simp
 have h2:=(hr.low b rfl).1
 rw [e] at hr h2
 exact ⟨(Box3.new w _ _ _ _).keep hb,h1.trans (hb.mono h1.size),hr,h2⟩
def JudgeW (n:No) (K N:Nat) (w:World) (e:Ending) (w':World):Prop :=
 ∃ A k c,e=.returned (.tuple #[.int .i64 (K:Nat),.int .i64 (N:Nat),.agg #[.int .i64 n.code,.int .i64 n.sub,.slice A k c]])∧U8s w' (.slice A k c) n.data∧Off [.slice A k c] (fun b=>b<w.heap.size)∧Below w.heap.size w w'
def JudgeF (l:List Nat):World→Ending→World→Prop:=JudgeW (headH l) (if (headH l).code=0 then typH l else 0) (if (headH l).code=0 then lenH l else 0)
theorem judge_end {w W:World} {b n k c:Nat} {l d:List Nat} {A:Option Addr} {code sub:Int} {K N:Nat} (h:JgSt w b n l W) (hU:U8s W (.slice A k c) d) (hO:Off [.slice A k c] (fun b=>b<w.heap.size)) :
  JudgeW ⟨code,sub,d⟩ K N w (.returned (.tuple #[.int .i64 (K:Nat),.int .i64 (N:Nat),.agg #[.int .i64 code,.int .i64 sub,.slice A k c]])) (three W w.heap.size (.int .i64 code) (.int .i64 sub) (.slice A k c)):=by
 have ho:=three_off W w.heap.size (.int .i64 code) (.int .i64 sub) (.slice A k c)
 have hn:=h.box.no8 (no8_i _) (no8_i _) (no8_s _ _ _)
 exact ⟨A,k,c,rfl,u8_apart hU hn ho.1 ho.2,hO,three_low h.low _ (Nat.le_refl _) _ _ _⟩
theorem JgSt.keep {w W W2:World} {b n:Nat} {l:List Nat} (h:JgSt w b n l W) (hb:Below W.heap.size W W2):JgSt w b n l W2:=⟨h.box.keep hb,h.low.trans (hb.mono h.low.size),h.rd.below hb,h.at_⟩
theorem ff_all {l:List Nat} (h:16≤l.length):(l.take 16=List.replicate 16 255) ↔ (l.take 16).all (fun x=>decide (x=255))=true:=by
 rw [List.eq_replicate_iff,List.length_take,Nat.min_eq_left h,List.all_eq_true]
 simp
theorem two_back {l:List Nat} (hs:Small l) (h:l.length=2):[lo8 ((val l:Int) / 256),lo8 (val l:Int)]=l:=by
 match l,h with
 | [a,b],_ =>
  have ha:=hs a (by simp)
  have hb:=hs b (by simp)
  have e:val [a,b]=a*256+b:=by show (0*256+a)*256+b=_;omega
  rw [e]
  unfold lo8
  congr 1
  ·omega
  ·congr 1;omega
theorem one_back {l:List Nat} (hs:Small l) (h:l.length=1):[lo8 (val l:Int)]=l:=by
 match l,h with
 | [a],_ =>
  have ha:=hs a (by simp)
  have e:val [a]=a:=by show 0*256+a=a;omega
  rw [e]
  unfold lo8
  congr 1
  omega
theorem typ_val {l:List Nat} (h:l.length=19):typH l=val ((l.drop 18).take 1):=by
 unfold typH
 match hd:l.drop 18,(show (l.drop 18).length=1 by rw [List.length_drop];omega) with
 | [a],_ =>
  have:l[18]?=some a:=by
   have:=congrArg (fun x=>x[0]?) hd
   simpa [List.getElem?_drop] using this
  rw [this]
  show a=0*256+a
  omega
theorem off_none (n c:Nat) (G:Nat→Prop):Off [.slice none n c] G:=fun x hx b off m c' e=>by
 rw [List.mem_singleton.1 hx] at e
 cases e
theorem off_one {g n c:Nat} {G:Nat→Prop} (h:¬ G g):Off [.slice (some ⟨g,0,none⟩) n c] G:=fun x hx b off m c' e=>by
 rw [List.mem_singleton.1 hx] at e
 injection e with e
 injection e with e
 injection e with e
 subst e
 exact fun _=>h
def FltF (w:World) (b n:Nat) (l:List Nat) (s:Int) (d:List Nat) (e:Ending) (w':World):Prop:=∃ A k c,e=.returned (.agg #[.int .i64 1,.int .i64 s,.slice A k c])∧U8s w' (.slice A k c) d∧Off [.slice A k c] (fun b=>b<w.heap.size)∧JgSt w b n l w'
theorem flt_none (s:Int) {w:World} {b n:Nat} {l:List Nat} (W:World) (h:JgSt w b n l W):Calls Tryz.prog 128 #[.int .i64 s,.slice none 0 0] W (FltF w b n l s []) :=
 (fault_any s none 0 0 W).mono fun _ _ ⟨he,hb⟩=>⟨none,0,0,he,U8s.nil _,off_none _ _ _,h.keep hb⟩
theorem flt_lit (s:Int) (d:List Nat) (C:Array Value) (k:Nat) (hd:Small d) (hC:C.toList=cells8 d) (hk:k=d.length) (hm:k≤1000000) {w:World} {b n:Nat} {l:List Nat} (W:World) (h:JgSt w b n l W) :
  Calls Tryz.prog 128 #[.int .i64 s,.slice (some ⟨W.heap.size,0,none⟩) k k] (W.alloc (.cells C 5)) (FltF w b n l s d) :=
 (fault_any s _ k k _).mono fun _ _ ⟨he,hb⟩=>⟨_,k,k,he,(lit8 W d C k hd hC hk hm).keep hb,off_one (by have:=h.low.size;omega),(h.keep ((Below.refl _ _).alloc (Nat.le_refl _) _)).keep hb⟩
theorem judge_any (v:Value) (l:List Nat) (w:World) (hv:U8s w v l) (hl:l.length=19):Calls Tryz.prog 80 #[v] w (JudgeF l w):=by
 have hal:=box_low w (.int .i64 0) (.int .i64 0) (.slice none 0 0)
 have CN:=hid (show Calls Tryz.prog 81 #[v] (w.alloc (.cells #[.int .i64 0,.int .i64 0,.slice none 0 0] 34)) (NewF l _) from new_any v l _ (hv.keep hal) (by omega))
 have HR:=hid hv.2
 have HR2:=hid (hv.2.drop 16)
 have HR3:=hid ((hv.2.drop 16).drop 2)
 obtain ⟨e1,e2⟩:=fit_go (l:=l) (n:=16) (by omega)
 obtain ⟨e3,e4⟩:=fit_go (l:=l.drop 16) (n:=2) (by rw [List.length_drop];omega)
 obtain ⟨e5,e6⟩:=fit_go (l:=(l.drop 16).drop 2) (n:=1) (by rw [List.length_drop,List.length_drop];omega)
 have CT:=hid (fun (b n:Nat) (W:World) (h:R W (w.heap.size+1) n (.pointer (some ⟨b,0,none⟩)) l false (fun k=>k=b))=>show Calls Tryz.prog 90 #[.pointer (some ⟨b,0,none⟩),.int .i64 16] W (fun e w'=>∃ A c,e=.returned (.slice A 16 c)∧U8s w' (.slice A 16 c) (l.take 16)∧R w' (w.heap.size+1) n (.pointer (some ⟨b,0,none⟩)) (l.drop 16) false (fun k=>k=b)∧Only (fun k=>k=b) W w') from
  (take_any _ _ n l false _ 16 (by decide) W h).mono (by
   rintro e x ⟨A,c,rfl,hu,hr,ho⟩
   have h1:rest l false 16=l.drop 16:=congrArg Rd.l e1
   have h2:fails l false 16=false:=congrArg Rd.b e1
   have h3:got l false 16=l.take 16:=e2
   rw [h1,h2] at hr
   rw [h3] at hu ⊢
   rw [show (l.take 16).length=16 by rw [List.length_take];omega] at hu ⊢
   exact ⟨A,c,rfl,hu,hr,ho⟩))
 have CV:=hid (fun (b n:Nat) (W:World) (h:R W (w.heap.size+1) n (.pointer (some ⟨b,0,none⟩)) (l.drop 16) false (fun k=>k=b))=>show Calls Tryz.prog 83 #[.pointer (some ⟨b,0,none⟩)] W (fun e w'=>e=.returned (.int .i64 (lenH l:Nat))∧R w' (w.heap.size+1) n (.pointer (some ⟨b,0,none⟩)) ((l.drop 16).drop 2) false (fun k=>k=b)∧Only (fun k=>k=b) W w') from
  (u16_any _ _ n _ false _ W HR2.out h).mono (by
   rintro e x ⟨rfl,hr,ho⟩
   have h1:rest (l.drop 16) false 2=(l.drop 16).drop 2:=congrArg Rd.l e3
   have h2:fails (l.drop 16) false 2=false:=congrArg Rd.b e3
   have h3:got (l.drop 16) false 2=(l.drop 16).take 2:=e4
   rw [h1,h2] at hr
   rw [h3]
   exact ⟨rfl,hr,ho⟩))
 have CU:=hid (fun (b n:Nat) (W:World) (h:R W (w.heap.size+1) n (.pointer (some ⟨b,0,none⟩)) ((l.drop 16).drop 2) false (fun k=>k=b))=>show Calls Tryz.prog 82 #[.pointer (some ⟨b,0,none⟩)] W (fun e w'=>e=.returned (.int .i64 (typH l:Nat))∧R w' (w.heap.size+1) n (.pointer (some ⟨b,0,none⟩)) (((l.drop 16).drop 2).drop 1) false (fun k=>k=b)∧Only (fun k=>k=b) W w') from
  (u8_any _ _ n _ false _ W HR3.out h).mono (by
   rintro e x ⟨rfl,hr,ho⟩
   have h1:rest ((l.drop 16).drop 2) false 1=((l.drop 16).drop 2).drop 1:=congrArg Rd.l e5
   have h2:fails ((l.drop 16).drop 2) false 1=false:=congrArg Rd.b e5
   have h3:got ((l.drop 16).drop 2) false 1=(l.drop 18).take 1:=by
    have h4:got ((l.drop 16).drop 2) false 1=((l.drop 16).drop 2).take 1:=e6
    rw [h4,List.drop_drop]
   rw [h1,h2] at hr
   rw [h3,← typ_val hl]
   exact ⟨rfl,hr,ho⟩))
 have CE:=hid (fun (A:Option Addr) (c:Nat) (A2:Option Addr) (c2:Nat) (W:World) (h:U8s W (.slice A 16 c) (l.take 16)) (h2:U8s W (.slice A2 16 c2) (List.replicate 16 255))=>equal8_any _ _ _ _ W h h2)
 have CM:=hid (fun W=>show Calls Tryz.prog 60 #[] W (fun e w'=>∃ A c,e=.returned (.slice A 16 c)∧U8s w' (.slice A 16 c) (List.replicate 16 255)∧Below W.heap.size W w') from marker_any W)
 have hN:lenH l<65536:=lenH_lt hv.2
 have hT:typH l<256:=by
  rw [typ_val hl]
  have:=val_lt 1 (hv.2.drop 18)
  simpa using this
 have hd2:[lo8 ((lenH l:Int) / 256),lo8 (lenH l:Int)]=(l.drop 16).take 2:=two_back ((hv.2.drop 16).take 2) (by rw [List.length_take,List.length_drop];omega)
 have hd1:[lo8 (typH l:Int)]=(l.drop 18).take 1:=by rw [typ_val hl];exact one_back ((hv.2.drop 18).take 1) (by rw [List.length_take,List.length_drop];omega)
 have hff:=ff_all (l:=l) (by omega)
 have HH:headH l=headH l:=rfl
 conv at HH=>rhs;unfold headH
 clear e1 e2 e3 e4 e5 e6 HR HR2 HR3 hal hv hl
 unfold JudgeF
 generalize headH l=H at HH ⊢
 generalize l.take 16=M at CT CE hff HH
 generalize (l.drop 16).take 2=D2 at hd2 HH
 generalize (l.drop 18).take 1=D1 at hd1 HH
 generalize lenH l=N at CV hN hd2 HH ⊢
 generalize typH l=T at CU hT hd1 HH ⊢
 generalize ((l.drop 16).drop 2).drop 1=L3 at CU
 generalize (l.drop 16).drop 2=L2 at CU CV
 generalize l.drop 16=L1 at CV CT
 have wN:=wrap_lo8 (N:Int)
 have wN2:=wrap_lo8 ((N:Int) / 256)
 have wT:=wrap_lo8 (T:Int)
 have hw:M≠List.replicate 16 255∨(M=List.replicate 16 255∧((19≤N∧N≤4096)∧(T<1∨4<T)∨((19≤N∧N≤4096)∧(1≤T∧T≤4)∧¬ (N<leastH T∨T=4∧19<N))∨N<19∨(19≤N∧4096<N)∨((19≤N∧N≤4096)∧(1≤T∧T≤4)∧(N<leastH T∨T=4∧19<N)))):=by
  by_cases h:M=List.replicate 16 255
  ·refine .inr ⟨h,?_⟩
   by_cases h2:N<leastH T∨T=4∧19<N <;> omega
  ·exact .inl h
 rcases hw with hM | ⟨hM,hw⟩
 focus
  rw [decide_eq_false hM] at CE
  rw [if_pos (by cases h:M.all (fun x=>decide (x=255)) with | true=>exact absurd (hff.2 h) hM | false=>rfl)] at HH
  subst HH
  show Calls _ _ _ _ (JudgeW ⟨1,1,[]⟩ 0 0 w)
  have CF:=hid (fun (b n:Nat) (l:List Nat) W (h:JgSt w b n l W)=>flt_none 1 W h)
 rotate_left
 rw [decide_eq_true hM] at CE
 rw [if_neg (by rw [hff.1 hM];decide)] at HH
 clear hff hM
 rcases hw with ⟨hN2,hT2⟩ | ⟨hN2,hT2,hf⟩ | hN2 | hN2 | ⟨hN2,hT2,hf⟩
 focus
  rw [if_neg (by omega),if_pos hT2] at HH
  subst HH
  show Calls _ _ _ _ (JudgeW ⟨1,3,D1⟩ 0 0 w)
  have z0:19≤(N:Int):=by omega
  have z1:(N:Int)≤4096:=by omega
  have CW:=hid (fun W=>show Calls Tryz.prog 58 #[.int .i64 T] W (Tells (.bool false) W) from by
   have h:=valid_any T W
   rw [decide_eq_false (by omega)] at h
   exact h)
  have CF:=hid (fun (b n:Nat) (l:List Nat) W (h:JgSt w b n l W)=>flt_lit 3 D1 #[.int .u8 (lo8 T)] 1 (by rw [← hd1];intro y hy;rw [List.mem_singleton.1 hy];exact lo8_lt _) (by rw [← hd1];rfl) (by rw [← hd1];rfl) (by decide) W h)
  clear hN2 hT2
 rotate_left
 focus
  rw [if_neg (by omega),if_neg (by omega),if_neg hf] at HH
  subst HH
  show Calls _ _ _ _ (JudgeW noneF T N w)
  have z0:19≤(N:Int):=by omega
  have z1:(N:Int)≤4096:=by omega
  have CW:=hid (fun W=>show Calls Tryz.prog 58 #[.int .i64 T] W (Tells (.bool true) W) from by
   have h:=valid_any T W
   rw [decide_eq_true (by omega)] at h
   exact h)
  have CX:=hid (fun W=>show Calls Tryz.prog 129 #[.int .i64 T,.int .i64 N] W (Tells (.bool true) W) from by
   have h:=fits_any T N W (by omega) (by omega) (by omega)
   rw [decide_eq_false hf] at h
   exact h)
  clear hN2 hT2 hf
 rotate_left
 focus
  rw [if_pos (by omega)] at HH
  subst HH
  show Calls _ _ _ _ (JudgeW ⟨1,2,D2⟩ 0 0 w)
  have z0:(N:Int)<19:=by omega
  have CF:=hid (fun (b n:Nat) (l:List Nat) W (h:JgSt w b n l W)=>flt_lit 2 D2 #[.int .u8 (lo8 ((N:Int) / 256)),.int .u8 (lo8 N)] 2 (by rw [← hd2];intro y hy;simp only [List.mem_cons,List.not_mem_nil,or_false] at hy;rcases hy with rfl | rfl <;> exact lo8_lt _) (by rw [← hd2];rfl) (by rw [← hd2];rfl) (by decide) W h)
  clear hN2
 rotate_left
 focus
  rw [if_pos (by omega)] at HH
  subst HH
  show Calls _ _ _ _ (JudgeW ⟨1,2,D2⟩ 0 0 w)
  have z0:19≤(N:Int):=by omega
  have z1:4096<(N:Int):=by omega
  have CF:=hid (fun (b n:Nat) (l:List Nat) W (h:JgSt w b n l W)=>flt_lit 2 D2 #[.int .u8 (lo8 ((N:Int) / 256)),.int .u8 (lo8 N)] 2 (by rw [← hd2];intro y hy;simp only [List.mem_cons,List.not_mem_nil,or_false] at hy;rcases hy with rfl | rfl <;> exact lo8_lt _) (by rw [← hd2];rfl) (by rw [← hd2];rfl) (by decide) W h)
  clear hN2
 rotate_left
 focus
  rw [if_neg (by omega),if_neg (by omega),if_pos hf] at HH
  subst HH
  show Calls _ _ _ _ (JudgeW ⟨1,2,D2⟩ 0 0 w)
  have z0:19≤(N:Int):=by omega
  have z1:(N:Int)≤4096:=by omega
  have CW:=hid (fun W=>show Calls Tryz.prog 58 #[.int .i64 T] W (Tells (.bool true) W) from by
   have h:=valid_any T W
   rw [decide_eq_true (by omega)] at h
   exact h)
  have CX:=hid (fun W=>show Calls Tryz.prog 129 #[.int .i64 T,.int .i64 N] W (Tells (.bool false) W) from by
   have h:=fits_any T N W (by omega) (by omega) (by omega)
   rw [decide_eq_true hf] at h
   exact h)
  have CF:=hid (fun (b n:Nat) (l:List Nat) W (h:JgSt w b n l W)=>flt_lit 2 D2 #[.int .u8 (lo8 ((N:Int) / 256)),.int .u8 (lo8 N)] 2 (by rw [← hd2];intro y hy;simp only [List.mem_cons,List.not_mem_nil,or_false] at hy;rcases hy with rfl | rfl <;> exact lo8_lt _) (by rw [← hd2];rfl) (by rw [← hd2];rfl) (by decide) W h)
  clear hN2 hT2 hf
 rotate_left
 all_goals
  clear hN hT
  go_enter Tryz.func80,Tryz.ntmps80
  go_wp2
  refine wp_scope_ahead 0 (by rfl) ?_
  go_wp2_with (first
   | (go_at_call 81;refine CN.out.mono ?_;rintro e x ⟨b,rfl,hr,hb⟩;have J0:=hid (jg_start hr hb);clear hr hb)
   | (have h:=J0.out;go_at_call 90;refine (CT.out _ _ _ h.rd).mono ?_;rintro e x2 ⟨A1,c1,rfl,hu,hr,ho⟩;have U1:=hid hu;have J1:=hid (h.read hr ho);clear h hu hr ho J0)
   | (have h:=J1.out;go_at_call 83;refine (CV.out _ _ _ h.rd).mono ?_;rintro e x3 ⟨rfl,hr,ho⟩;have U2:=hid (u8_stays U1.out (R.no8 h.rd) ho);have J2:=hid (h.read hr ho);clear h hr ho J1 U1)
   | (have h:=J2.out;go_at_call 82;refine (CU.out _ _ _ h.rd).mono ?_;rintro e x4 ⟨rfl,hr,ho⟩;have U3:=hid (u8_stays U2.out (R.no8 h.rd) ho);have J3:=hid (h.read hr ho);clear h hr ho J2 U2)
   | (have h:=J3.out;go_at_call 60;refine (CM.out _).mono ?_;rintro e x5 ⟨A5,c5,rfl,hu,hb⟩;have J:=hid (h.keep hb);have U4:=hid (U3.out.keep hb);have V4:=hid hu;clear h hu hb J3 U3;obtain ⟨c0,c1,c2⟩:=J.out.box.cells;have ff:=J.out.box.free)
   | (have h:=U4.out;go_at_call 77;refine (CE.out _ _ _ _ _ h V4.out).mono ?_;rintro e x6 ⟨rfl,rfl⟩;clear h)
   | (go_at_call 58;refine (CW.out _).mono ?_;rintro e x7 ⟨rfl,hb⟩;replace J:=hid (J.out.keep hb);clear hb c0 c1 c2 ff;obtain ⟨c0,c1,c2⟩:=J.out.box.cells;have ff:=J.out.box.free)
   | (go_at_call 129;refine (CX.out _).mono ?_;rintro e x8 ⟨rfl,hb⟩;replace J:=hid (J.out.keep hb);clear hb c0 c1 c2 ff;obtain ⟨c0,c1,c2⟩:=J.out.box.cells;have ff:=J.out.box.free)
   | (go_at_call 128;refine (CF.out _ _ _ _ J.out).mono ?_;rintro e x9 ⟨A9,k9,c9,rfl,hu,hz,hj⟩;have U9:=hid (And.intro hu hz);replace J:=hid hj;clear hu hz hj c0 c1 c2 ff;obtain ⟨c0,c1,c2⟩:=J.out.box.cells;have ff:=J.out.box.free))
 ·rw [jump_ret]
  have r0:=(J.out.box.set0 (.int .i64 1)).cells.1
  have r1:=((J.out.box.set0 (.int .i64 1)).set1 (.int .i64 1)).cells.2.1
  have r2:=(J.out.box.laid (.int .i64 1) (.int .i64 1) (.slice A9 k9 c9)).cells.2.2
  unfold three at r2
  refine bodyPost_ret (v:=.tuple #[.int .i64 0,.int .i64 0,.agg #[.int .i64 1,.int .i64 1,(.slice A9 k9 c9)]]) (by simp [results,Tryz.results80,go_sem,r0,r1,r2]) rfl ?_
  exact judge_end J.out U9.out.1 U9.out.2
 ·rw [jump_ret]
  have r0:=(J.out.box.set0 (.int .i64 1)).cells.1
  have r1:=((J.out.box.set0 (.int .i64 1)).set1 (.int .i64 3)).cells.2.1
  have r2:=(J.out.box.laid (.int .i64 1) (.int .i64 3) (.slice A9 k9 c9)).cells.2.2
  unfold three at r2
  refine bodyPost_ret (v:=.tuple #[.int .i64 0,.int .i64 0,.agg #[.int .i64 1,.int .i64 3,(.slice A9 k9 c9)]]) (by simp [results,Tryz.results80,go_sem,r0,r1,r2]) rfl ?_
  exact judge_end J.out U9.out.1 U9.out.2
 ·rw [jump_ret]
  have r0:=(J.out.box.set0 (.int .i64 0)).cells.1
  have r1:=((J.out.box.set0 (.int .i64 0)).set1 (.int .i64 0)).cells.2.1
  have r2:=(J.out.box.laid (.int .i64 0) (.int .i64 0) (.slice none 0 0)).cells.2.2
  unfold three at r2
  refine bodyPost_ret (v:=.tuple #[.int .i64 (T:Nat),.int .i64 (N:Nat),.agg #[.int .i64 0,.int .i64 0,(.slice none 0 0)]]) (by simp [results,Tryz.results80,go_sem,r0,r1,r2]) rfl ?_
  exact judge_end J.out (U8s.nil _) (off_none _ _ _)
 all_goals
  go_step3
  refine ⟨rfl,?_⟩
  go_wp2_with (go_at_call 128;refine (CF.out _ _ _ _ J.out).mono ?_;rintro e x9 ⟨A9,k9,c9,rfl,hu,hz,hj⟩;have U9:=hid (And.intro hu hz);replace J:=hid hj;clear hu hz hj c0 c1 c2 ff;obtain ⟨c0,c1,c2⟩:=J.out.box.cells;have ff:=J.out.box.free)
  rw [Exit.noGoto_ret]
  have r0:=(J.out.box.set0 (.int .i64 1)).cells.1
  have r1:=((J.out.box.set0 (.int .i64 1)).set1 (.int .i64 2)).cells.2.1
  have r2:=(J.out.box.laid (.int .i64 1) (.int .i64 2) (.slice A9 k9 c9)).cells.2.2
  unfold three at r2
  refine bodyPost_ret (v:=.tuple #[.int .i64 0,.int .i64 0,.agg #[.int .i64 1,.int .i64 2,(.slice A9 k9 c9)]]) (by simp [results,Tryz.results80,go_sem,r0,r1,r2]) rfl ?_
  exact judge_end J.out U9.out.1 U9.out.2
end Frm
namespace Frm
open Go.RowKit Mem Oct Att
open Go.Lib (hid)
def SplitF (b:List Nat) (w:World) (e:Ending) (w':World):Prop :=
 ∃ A c q A2 k2 c2,e=.returned (.tuple #[.slice A (pcs b).1.length c,.int .i64 ((pcs b).2.1:Nat),.agg #[.int .i64 (pcs b).2.2.code,.int .i64 (pcs b).2.2.sub,.slice A2 k2 c2]]) ∧
  w'.ownsRow w.heap.size 53 2 (.slice A (pcs b).1.length c) (pcs b).1.length (frmCells (pcs b).1 q)∧Bods w' (pcs b).1 q∧Off q (fun b=>b<w.heap.size)∧U8s w' (.slice A2 k2 c2) (pcs b).2.2.data∧Off [.slice A2 k2 c2] (fun b=>b<w.heap.size)∧Below w.heap.size w w'
theorem SplitF.pieces {b:List Nat} {w w':World} {e:Ending} (h:SplitF b w e w'):PiecesF b w e w':=by
 obtain ⟨A,c,q,A2,k2,c2,h1,h2,h3,h4,h5,h6,h7⟩:=h
 exact ⟨A,c,A2,k2,c2,h1,⟨q,Row.of_own h2,h3⟩,h5,h7⟩
structure SpSt (w:World) (P:List Pc) (A:Option Addr) (cp:Nat) (q:List Value) (W:World):Prop where
 box:Box3 W w.heap.size 34 (.int .i64 0) (.int .i64 0) (.slice none 0 0)
 low:Below w.heap.size w W
 row:W.ownsRow (w.heap.size+1) 53 2 (.slice A P.length cp) P.length (frmCells P q)
 bods:Bods W P q
 ap:Apart (.slice A P.length cp) q
 off:Off q (fun b=>b<w.heap.size)
theorem SpSt.keep {w W W2:World} {P:List Pc} {A:Option Addr} {cp:Nat} {q:List Value} (h:SpSt w P A cp q W) (hb:Below W.heap.size W W2):SpSt w P A cp q W2 :=
 ⟨h.box.keep hb,h.low.trans (hb.mono h.low.size),own_keep h.row hb,h.bods.keep hb,h.ap,h.off⟩
theorem split_end {w W:World} {b:List Nat} {P:List Pc} {A A2:Option Addr} {cp k k2 c2:Nat} {q:List Value} {code sub:Int} {d:List Nat} (h:SpSt w P A cp q W) (he:pcs b=(P,k,⟨code,sub,d⟩)) (hU:U8s W (.slice A2 k2 c2) d) (hO:Off [.slice A2 k2 c2] (fun b=>b<w.heap.size)) :
  SplitF b w (.returned (.tuple #[.slice A P.length cp,.int .i64 (k:Nat),.agg #[.int .i64 code,.int .i64 sub,.slice A2 k2 c2]])) (three W w.heap.size (.int .i64 code) (.int .i64 sub) (.slice A2 k2 c2)):=by
 have ho:=three_off W w.heap.size (.int .i64 code) (.int .i64 sub) (.slice A2 k2 c2)
 have hn:=h.box.no8 (no8_i _) (no8_i _) (no8_s _ _ _)
 unfold SplitF
 rw [he]
 exact ⟨A,cp,q,A2,k2,c2,rfl,own_base (own_same2 h.row (fun g hg=>ho.1 g (by have:=(h.row.lt g hg).1;omega))) (Nat.le_succ _),⟨h.bods.1,fun j s x e1 e2=>u8_apart (h.bods.2 j s x e1 e2) hn ho.1 ho.2⟩,h.off,u8_apart hU hn ho.1 ho.2,hO,three_low h.low _ (Nat.le_refl _) _ _ _⟩
theorem SplitF.drew {b:List Nat} {w W:World} {e:Ending} (h:SplitF b w e W):SplitF b w e W.drew:=by
 obtain ⟨A,c,q,A2,k2,c2,h1,h2,h3,h4,h5,h6,h7⟩:=h
 have hd:Below W.heap.size W W.drew:=(Below.refl _ _).drew
 exact ⟨A,c,q,A2,k2,c2,h1,own_keep h2 hd,h3.keep hd,h4,h5.keep hd,h6,h7.drew⟩
theorem elemFs:∃ i,IsElem Tryz.prog 76 53 2 32 i (.agg #[.int .i64 0,.slice none 0 0]):=IsElem.mk_ Tryz.underlying76 (by kernel_rfl) rfl (by decide)
theorem off_own {W:World} {base n m:Nat} {t:TypeId} {v:Value} {xs:List Value} (h:W.ownsRow base t 1 v m xs) (hb:n≤base):Off [v] (fun b=>b<n):=fun x hx b off m c e _ hlt=>by
 rw [List.mem_singleton.1 hx] at e
 have:=(h.lt b (by rw [e];rfl)).1
 omega
theorem Off.less {q:List Value} {n m:Nat} (h:Off q (fun b=>b<m)) (hn:n≤m):Off q (fun b=>b<n):=fun x hx b off m c e hm hlt=>h x hx b off m c e hm (Nat.lt_of_lt_of_le hlt hn)
theorem SpSt.fresh {w W W2:World} {P:List Pc} {A:Option Addr} {cp m:Nat} {q:List Value} {t:TypeId} {v:Value} {xs:List Value} (h:SpSt w P A cp q W) (ho:W2.ownsRow W.heap.size t 1 v m xs):Apart (.slice A P.length cp) [v]:=Apart.one fun b off m c e _ e2=>by
 have h1:=(ho.lt b (by rw [e];rfl)).1
 have h2:=(h.row.lt b e2).2
 omega
theorem sp_more {w z W':World} {P:List Pc} {A A':Option Addr} {cp c' T:Nat} {q:List Value} {xv:Value} {D:List Nat} {o:Obj} (h:SpSt w P A cp q z) (hD:U8s z xv D) (ha:Apart (.slice A P.length cp) [xv]) (hO:Off [xv] (fun b=>b<w.heap.size))
  (hown:W'.ownsRow (w.heap.size+1) 53 2 (.slice A' (P.length+1) c') (P.length+1) (frmCells P q ++ [.int .i64 (T:Nat),xv])) (hg:(z.alloc o).grownBy W' (Value.slice A P.length cp).ownBlock)
  (hat:(Value.slice A' (P.length+1) c').ownBlock=(Value.slice A P.length cp).ownBlock∨(Value.slice A' (P.length+1) c').ownBlock=some (z.alloc o).heap.size) (hb:Below (w.heap.size+1) (z.alloc o) W'):SpSt w (P ++ [(T,D)]) A' c' (q ++ [xv]) W':=by
 have hX:Below z.heap.size z (z.alloc o):=(Below.refl _ _).alloc (Nat.le_refl _) _
 have hlow:=h.low.trans (hX.mono h.low.size)
 have hb1:w.heap.size<(z.alloc o).heap.size:=Nat.lt_of_lt_of_le h.box.lt hX.size
 obtain ⟨h1,h2,h3⟩:=frms_grownQ hX h.bods h.ap (Bods.one (s:=(T,D)) hD) ha hg hat hX.size rfl hown
 rw [List.length_append,List.length_singleton] at h1
 refine ⟨(h.box.keep hX).below (fun k hk=>hb.block k (by omega)),hlow.trans (hb.mono (Nat.le_succ _)),?_,h2,?_,fun x hx=>(List.mem_append.1 hx).elim (h.off x) (hO x)⟩
 ·rw [List.length_append,List.length_singleton];exact h1
 ·rw [List.length_append,List.length_singleton];exact h3
theorem cut_all {b:List Nat} (h:19≤b.length):headH (b.take 19)=headH b∧lenH (b.take 19)=lenH b∧typH (b.take 19)=typH b:=by
 have h1:=headH_front (b:=b.take 19) (b.drop 19) (by rw [List.length_take];omega)
 rw [List.take_append_drop] at h1
 exact ⟨h1.1.symm,h1.2.1.symm,h1.2.2.symm⟩
theorem split_any (v:Value) (b:List Nat) (w:World) (hv:U8s w v b) (hl:b.length≤100000):Calls Tryz.prog 45 #[v] w (SplitF b w):=by
 obtain ⟨A0,c,rfl,hc,hc2⟩:=hv.form
 have HX:=hid (Box3.new w 34 (.int .i64 0) (.int .i64 0) (.slice none 0 0))
 have BB:=hid (box_low w (.int .i64 0) (.int .i64 0) (.slice none 0 0))
 have HV:=hid hv
 have HS:=hid (show SpSt w [] none 0 [] (w.alloc (.cells #[.int .i64 0,.int .i64 0,.slice none 0 0] 34)) from ⟨HX.out,BB.out,World.ownsRow_nil _ _ _ _,Bods.nil _,fun x hx=>(by cases hx),fun x hx=>(by cases hx)⟩)
 clear hv HX BB
 go_enter Tryz.func45,Tryz.ntmps45
 go_wp2
 go_loopw [5,6] (fun v5 v6 wx=>∃ (k:Nat) (P:List Pc) (A:Option Addr) (cp:Nat) (q:List Value),k≤b.length∧P.length≤k∧v6=.int .i64 k∧v5=.slice A P.length cp∧Hid (Rest b k P)∧Hid (SpSt w P A cp q wx)) (fun _ v6 _=>b.length - (intOf v6).toNat)
 case atStart=>exact ⟨0,[],none,0,[],Nat.zero_le _,Nat.le_refl _,rfl,rfl,hid (rest_start b),HS⟩
 case round =>
  obtain ⟨k,P,A,cp,q,hk,hPk,rfl,rfl,HR,ST⟩:=hrel
  obtain ⟨c0,c1,c2⟩:=ST.out.box.cells
  have ff:=ST.out.box.free
  by_cases hlt:b.length<k+19
  ·have z1:(b.length:Int) - (k:Int)<19:=by omega
   have E:=hid (rest_short HR.out hlt)
   clear hlt
   go_wp2
   have r0:=(ST.out.box.set0 (.int .i64 0)).cells.1
   have r1:=((ST.out.box.set0 (.int .i64 0)).set1 (.int .i64 0)).cells.2.1
   have r2:=(ST.out.box.laid (.int .i64 0) (.int .i64 0) (.slice none 0 0)).cells.2.2
   unfold three at r2
   refine bodyPost_ret (v:=.tuple #[.slice A P.length cp,.int .i64 (k:Nat),.agg #[.int .i64 0,.int .i64 0,(.slice none 0 0)]]) (by simp [results,Tryz.results45,go_sem,r0,r1,r2]) rfl ?_
   exact split_end ST.out E.out (U8s.nil _) (off_none _ _ _)
  ·have hk19:k+19≤b.length:=by omega
   obtain ⟨b0,off,x0,rfl,hb0,-,-,-⟩:=(HV.out).at_ (show 0<b.length by omega)
   have VV:=hid (HV.out.keep ST.out.low)
   have HLE:=hid ST.out.low.size
   have z1:19≤(b.length:Int) - (k:Int):=by omega
   have z2:(k:Int)≤(k:Int)+19:=by omega
   have z3:(k:Int)+19≤(c:Int):=by omega
   have z0:(0:Int)≤(k:Int):=by omega
   have hck:¬ c=k:=by omega
   have hm:=U8s.mid VV.out (i:=k) (k:=19) (by omega) (by omega)
   have CJ:=hid (judge_any (.slice (some ⟨b0,off+k,none⟩) 19 (c - k)) _ wr hm (by rw [List.length_take,List.length_drop];omega))
   obtain ⟨e1,e2,e3⟩:=cut_all (b:=b.drop k) (by rw [List.length_drop];omega)
   unfold JudgeF JudgeW at CJ
   rw [e1,e2,e3] at CJ
   have hcode:=headH_code (b.drop k)
   have HB:=hid (fun hb=>rest_bad HR.out hk19 hb)
   have HG:=hid (fun hb=>And.intro (fun hn=>rest_wait HR.out hk19 hb hn) (And.intro (fun hn=>rest_more HR.out hk19 hb hn) (headH_none hb)))
   clear hm hlt e1 e2 e3
   generalize headH (b.drop k)=H at CJ hcode HB HG
   obtain ⟨cd,sb,dd⟩:=H
   dsimp only at CJ hcode HB HG
   rcases hcode with rfl | rfl
   ·obtain ⟨HW,HM,hnn,hn1,hn2,ht1,ht2⟩:=HG.out rfl
    obtain ⟨rfl,rfl⟩:sb=0∧dd=[]:=by simpa [noneF] using hnn
    simp only [if_true] at CJ
    clear hnn HB HG
    generalize lenH (b.drop k)=N at CJ HW HM hn1 hn2
    generalize typH (b.drop k)=Ty at CJ HM ht1 ht2
    by_cases hn:b.length<k+N
    ·have E:=hid (HW hn)
     have z7:(b.length:Int) - (k:Int)<(N:Int):=by omega
     clear HM HW ht1 ht2 hn
     go_wp2_with (go_at_call 80;refine (CJ.out).mono ?_;rintro e x ⟨A1,k1,d1,rfl,hU,hO,hb⟩;have hb2:=box_low x (.int .i64 0) (.int .i64 0) (.slice A1 k1 d1);replace ST:=hid ((ST.out.keep hb).keep hb2);have U1:=hid (And.intro (hU.keep hb2) (hO.less HLE.out));have X1:=hid (Box3.new x 34 (.int .i64 0) (.int .i64 0) (.slice A1 k1 d1));replace VV:=hid ((VV.out.keep hb).keep hb2);clear hU hO hb hb2 c0 c1 c2 ff;obtain ⟨c0,c1,c2⟩:=ST.out.box.cells;have ff:=ST.out.box.free;obtain ⟨p0,p1,p2⟩:=X1.out.cells)
     have r0:=(ST.out.box.set0 (.int .i64 0)).cells.1
     have r1:=((ST.out.box.set0 (.int .i64 0)).set1 (.int .i64 0)).cells.2.1
     have r2:=(ST.out.box.laid (.int .i64 0) (.int .i64 0) (.slice none 0 0)).cells.2.2
     unfold three at r2
     refine bodyPost_ret (v:=.tuple #[.slice A P.length cp,.int .i64 (k:Nat),.agg #[.int .i64 0,.int .i64 0,(.slice none 0 0)]]) (by simp [results,Tryz.results45,go_sem,r0,r1,r2]) rfl ?_
     exact split_end ST.out E.out (U8s.nil _) (off_none _ _ _)
    ·have HE:=hid (HM (by omega))
     have z7:(N:Int)≤(b.length:Int) - (k:Int):=by omega
     have z10:(k:Int)+19≤(k:Int)+(N:Int):=by omega
     have z11:(k:Int)+(N:Int)≤(c:Int):=by omega
     have z12:0≤(k:Int)+19:=by omega
     have hbody:((b.drop k).take N).drop 19=(b.drop (k+19)).take (N - 19):=by rw [List.drop_take,List.drop_drop]
     rw [hbody] at HE
     have HSD:=hid (show Small ((b.drop (k+19)).take (N - 19)) from (HV.out.2.drop _).take _)
     have w19:IntKind.i64.wrap ((k:Int)+19)=(k:Int)+19:=IntWalk.i64_in _ (by omega)
     have wN:IntKind.i64.wrap ((k:Int)+(N:Int))=(k:Int)+(N:Int):=IntWalk.i64_in _ (by omega)
     have t19:((k:Int)+19).toNat=k+19:=by omega
     have tN:((k:Int)+(N:Int)).toNat=k+N:=by omega
     have tkN:k+N - (k+19)=N - 19:=by omega
     obtain ⟨i0,E0⟩:=elemFs
     have hmid:=fun (h:k+19<c) W (hW:U8s W (.slice (some ⟨b0,off,none⟩) b.length c) b)=>U8s.mid (w:=W) hW (i:=k+19) (k:=N - 19) (by omega) h
     have hDl:((b.drop (k+19)).take (N - 19)).length≤100000:=by rw [List.length_take,List.length_drop];omega
     clear HM HW hn hbody
     by_cases hck3:c=k+19
     focus
      have hN:N - 19=0:=by omega
      have hC:c - (k+19)=0:=by omega
      have CC:=hid (fun W (_:U8s W (.slice (some ⟨b0,off,none⟩) b.length c) b)=>clone_any (.slice (some ⟨b0,off,none⟩) (N - 19) (c - (k+19))) ((b.drop (k+19)).take (N - 19)) W (by rw [hN,hC,List.take_zero];exact u8_none W (some ⟨b0,off,none⟩) (by decide)) (by omega))
      have hck4:(c=k+19)=True:=eq_true hck3
      clear hck3 hN hC
      generalize (b.drop (k+19)).take (N - 19)=D at CC HE HSD
     rotate_left
     focus
      have CC:=hid (fun W (h:U8s W (.slice (some ⟨b0,off,none⟩) b.length c) b)=>clone_any _ ((b.drop (k+19)).take (N - 19)) W (hmid (by omega) W h) (by omega))
      generalize (b.drop (k+19)).take (N - 19)=D at CC HE HSD
     all_goals
      clear hmid hDl
      unfold Gives8 at CC
     go_upto_region 8 with (go_at_call 80;refine (CJ.out).mono ?_;rintro e x ⟨A1,k1,d1,rfl,hU,hO,hb⟩;have hb2:=box_low x (.int .i64 0) (.int .i64 0) (.slice A1 k1 d1);replace ST:=hid ((ST.out.keep hb).keep hb2);have U1:=hid (And.intro (hU.keep hb2) (hO.less HLE.out));have X1:=hid (Box3.new x 34 (.int .i64 0) (.int .i64 0) (.slice A1 k1 d1));replace VV:=hid ((VV.out.keep hb).keep hb2);clear hU hO hb hb2 c0 c1 c2 ff;obtain ⟨c0,c1,c2⟩:=ST.out.box.cells;have ff:=ST.out.box.free;obtain ⟨p0,p1,p2⟩:=X1.out.cells)
     all_goals
      clear U1 X1 p0 p1 p2
      go_upto_region 9 with (have h:=VV.out;go_at_call 38;refine (CC.out _ h).mono ?_;rintro e z ⟨A3,c3,rfl,ho,hb⟩;have U3:=hid (And.intro (U8s.of_own ho HSD.out) (And.intro (ST.out.fresh ho) (off_own (n:=w.heap.size) ho ST.out.low.size)));replace ST:=hid (ST.out.keep hb);clear ho hb h VV c0 c1 c2 ff)
      have HO:=hid (own_keep ST.out.row ((Below.refl _ z).alloc (Nat.le_refl _) (.cells #[.int .i64 (Ty:Nat),.slice A3 D.length c3] 53)))
      have HRW:=hid (row_frm z Ty (.slice A3 D.length c3) 53)
      have HLT:=hid (show w.heap.size+1≤(z.alloc (.cells #[.int .i64 (Ty:Nat),.slice A3 D.length c3] 53)).heap.size from by have:=ST.out.box.lt;simp;omega)
      go_wp2_with (at_builtin;refine wpList_append_row rfl (.tmp 46) (.tmp 50) rfl E0 (w.heap.size+1) _ P.length (frmCells P q) rfl HO.out _ 1 [.int .i64 (Ty:Nat),.slice A3 D.length c3] rfl HRW.out (fun u hu=>by simp only [List.mem_cons,List.not_mem_nil,or_false] at hu;rcases hu with rfl | rfl <;> rfl) (by unfold maxLen;omega) (by omega) HLT.out (P.length+1) rfl ?_;intro A' c' W' hown hg hat hb;have ST2:=hid (sp_more ST.out U3.out.1 U3.out.2.1 U3.out.2.2 hown hg hat hb);clear hown hg hat hb)
      go_roundw
      case rel=>exact ⟨_,_,A',c',_,by omega,by rw [List.length_append,List.length_singleton];omega,by go_num,by rw [List.length_append,List.length_singleton],HE,ST2⟩
      case measure=>simp [intOf];omega
   ·have E:=hid (HB.out (by decide))
    clear HB HG
    go_upto_region 6 with (go_at_call 80;refine (CJ.out).mono ?_;rintro e x ⟨A1,k1,d1,rfl,hU,hO,hb⟩;have hb2:=box_low x (.int .i64 1) (.int .i64 sb) (.slice A1 k1 d1);replace ST:=hid ((ST.out.keep hb).keep hb2);have U1:=hid (And.intro (hU.keep hb2) (hO.less HLE.out));have X1:=hid (Box3.new x 34 (.int .i64 1) (.int .i64 sb) (.slice A1 k1 d1));replace VV:=hid ((VV.out.keep hb).keep hb2);clear hU hO hb hb2 c0 c1 c2 ff;obtain ⟨c0,c1,c2⟩:=ST.out.box.cells;have ff:=ST.out.box.free;obtain ⟨p0,p1,p2⟩:=X1.out.cells)
    clear hck z0 z1 z2 z3
    generalize x.alloc (.cells #[.int .i64 1,.int .i64 sb,.slice A1 k1 d1] 34)=y at ST U1 X1 VV p0 p1 p2 c0 c1 c2 ff ⊢
    go_region
    go_wp2
    have r0:=(ST.out.box.set0 (.int .i64 1)).cells.1
    have r1:=((ST.out.box.set0 (.int .i64 1)).set1 (.int .i64 sb)).cells.2.1
    have r2:=(ST.out.box.laid (.int .i64 1) (.int .i64 sb) (.slice A1 k1 d1)).cells.2.2
    unfold three at r2
    refine bodyPost_ret (v:=.tuple #[.slice A P.length cp,.int .i64 (k:Nat),.agg #[.int .i64 1,.int .i64 sb,(.slice A1 k1 d1)]]) (by simp [results,Tryz.results45,go_sem,r0,r1,r2]) rfl ?_
    exact (split_end ST.out E.out U1.out.1 U1.out.2).drew
end Frm
end Go.Proofs.YtjfmompgkkdliaaGreatDoor
