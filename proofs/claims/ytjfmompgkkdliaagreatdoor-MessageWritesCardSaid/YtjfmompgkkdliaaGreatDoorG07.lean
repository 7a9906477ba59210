/- Part of the proof. -/
import Derived.Test.YtjfmompgkkdliaaGreatDoorG06
import Derived.Test.YtjfmompgkkdliaaGreatDoorG04
import Derived.Deep.RegionHeld3
import Derived.Deep.DrawnRows
import Derived.Test.YtjfmompgkkdliaaGreatDoorG05
open Go.Lib (hid)
set_option maxRecDepth 100000
set_option maxHeartbeats 40000000
namespace Go.Proofs.YtjfmompgkkdliaaGreatDoor
namespace PR
open Go.RowKit Mem Pfx Oct
attribute [local go_sem ↓] Go.wp_at_zero Go.wp_at_succ
def enc (p:Pf):List Nat:=p.n.toNat :: (big p.a 4).take (sizeN p - 1)
def encs (l:List Pf):List Nat:=l.flatMap enc
theorem enc_len {p:Pf} (h:good p=true):(enc p).length=sizeN p:=by
 have h1:=sizeN_le p
 have h2:1≤sizeN p:=by unfold sizeN;rw [if_pos h];omega
 simp only [enc,List.length_cons,List.length_take,big_len]
 omega
theorem encs_take {l:List Pf} {j:Nat} {p:Pf} (h:l[j]?=some p):encs (l.take (j+1))=encs (l.take j) ++ enc p:=by
 unfold encs
 rw [List.take_add_one,h];simp
theorem enc_small {p:Pf} (h:good p=true):Small (enc p):=fun x hx=>by
 have:=goodB_len h
 simp only [enc,List.mem_cons] at hx
 rcases hx with rfl | hx
 ·omega
 ·exact big_small _ _ x (List.mem_of_mem_take hx)
theorem refEncode_any (v : Value) (l : List Pf) (w : World) (hv : Pfxs w v l) (hg : l.all good = true) (hl : l.length ≤ 1000) : Calls Tryz.prog 78 #[v] w (Gives8 (encs l) w) := by
  obtain ⟨i0,E0⟩:=elem8
  have HV:=hid hv
  have HG:=hid hg
  obtain ⟨A,c,rfl,hlc,hc⟩:=hv.form
  clear hv hg
  have h0:(w.alloc (.cells #[] 5)).ownsRow w.heap.size 5 1 (.slice (some ⟨w.heap.size,0,none⟩) 0 0) 0 (cells8 []):=own_blk (Nat.le_refl _) (heap_alloc_new _ _)
  have hb0:Below w.heap.size w (w.alloc (.cells #[] 5)):=(Below.refl _ w).alloc (Nat.le_refl _) _
  go_enter Tryz.func78,Tryz.ntmps78
  go_wp2
  go_loopw [3,4] (fun v3 v4 wx=>∃ (j m:Nat) (A:Option Addr) (c:Nat),j≤l.length∧v4=.int .i64 j∧v3=.slice A m c∧Hid (m=(encs (l.take j)).length)∧m≤5*j∧Hid (wx.ownsRow w.heap.size 5 1 (.slice A m c) m (cells8 (encs (l.take j))))∧Hid (Below w.heap.size w wx)) (fun _ v4 _=>l.length - (intOf v4).toNat)
  case atStart=>exact ⟨0,0,_,0,Nat.zero_le _,rfl,rfl,hid rfl,by omega,hid h0,hid hb0⟩
  case round =>
    obtain ⟨j,m,Ar,cr,hj,rfl,rfl,hm,hm5,hown,hb⟩:=hrel
    by_cases hlt:j<l.length
    · obtain ⟨p, hp⟩ : ∃ p, l[j]? = some p := ⟨_, List.getElem?_eq_getElem hlt⟩
      obtain ⟨b,off,rfl,hbl,k0,k1⟩:=(HV.out).at_ hp
      have hok:=(HV.out).2 p (List.mem_of_getElem? hp)
      have hgp:good p=true:=List.all_eq_true.1 HG.out p (List.mem_of_getElem? hp)
      have HKC:=hid (fun (W:World) (h:Below w.heap.size w W)=>(⟨(h.cell (p:=⟨b,off+j*2,none⟩) hbl).trans k0,(h.cell (p:=⟨b,off+j*2+1,none⟩) hbl).trans k1⟩:W.cell? ⟨b,off+j*2,none⟩=some (.int .u32 p.a)∧W.cell? ⟨b,off+j*2+1,none⟩=some (.int .i64 p.n)))
      have z0:(0:Int)≤(j:Int):=by omega
      have z1:(j:Int)<(l.length:Int):=by omega
      obtain ⟨hn0,hn1⟩:=goodB_len hgp
      obtain ⟨a,n⟩:=p
      obtain ⟨k,rfl⟩:=Int.eq_ofNat_of_zero_le hn0
      obtain ⟨s, hs, hs4⟩ : ∃ s, sizeN ⟨a, (k : Int)⟩ = s + 1 ∧ s ≤ 4 := by
        have h1:=sizeN_le ⟨a,(k:Int)⟩
        have h2:1≤sizeN ⟨a,(k:Int)⟩:=by unfold sizeN;rw [if_pos hgp];omega
        exact ⟨sizeN ⟨a,(k:Int)⟩ - 1,by omega,by omega⟩
      obtain ⟨q,hq⟩:∃ q,q=s+1:=⟨_,rfl⟩
      have CS := hid (fun (W : World) => show Calls Tryz.prog 125 #[.agg #[.int .u32 a, .int .i64 k]] W (Tells (.int .i64 (q : Int)) W) from by
        have h:=refSize_any ⟨a,(k:Int)⟩ W hok.1
        rw [hs,← hq] at h
        exact h)
      have wq:IntKind.i64.wrap ((q:Int) - 1)=(s:Int):=by rw [IntKind.wrap_i64];omega
      have y0:(0:Int)≤(s:Int):=by omega
      have CB := hid (fun (W : World) => show Calls Tryz.prog 42 #[.int .u64 a, .int .i64 4] W (fun e w' => ∃ A c, e = .returned (.slice A 4 c) ∧ 4 ≤ c ∧ w'.ownsRow W.heap.size 5 1 (.slice A 4 c) 4 (cells8 (big a 4)) ∧ Below W.heap.size W w') from (big_any a 4 W (by have h9 : a < 4294967296 := hok.1; omega) (by omega)).mono fun e w' h => by
        obtain ⟨A,c,h1,h2,h3⟩:=h
        rw [big_len] at h1 h2
        exact ⟨A,c,h1,by obtain ⟨_,A',c',e,hn,_⟩:=Row.of_own h2;injection e with e1 e2 e3;omega,h2,h3⟩)
      have hk32:(k:Int)≤32:=hn1
      have HE:=hid (encs_take hp)
      have HOK:=hid (show a<4294967296 from hok.1)
      have BW:=hid (hb.out.trans ((Below.refl wr.heap.size wr).drew.mono hb.out.size))
      have S:=hid (own_keep hown.out ((Below.refl wr.heap.size wr).drew))
      have kc:=HKC.out _ BW.out
      clear k0 k1 hp hgp hbl hok hn0 hn1 hb hown
      have T0:=hid True.intro
      have hm5':m≤5000:=by omega
      have hSP:(enc ⟨a,(k:Int)⟩)=[k] ++ (big a 4).take s:=by unfold enc;rw [hs];simp
      have HSP:=hid hSP
      clear hSP hs hq
      have wa:IntKind.u64.wrap (a:Int)=(a:Int):=by rw [IntKind.wrap_u64];have h9:a<4294967296:=HOK.out;omega
      have wk:IntKind.u8.wrap (k:Int)=(k:Int):=by rw [IntKind.wrap_u8];omega
      go_wp2
      go_region_held3 (fun w' => w'.cell? ⟨b, off + j * 2, none⟩ = some (.int .u32 a) ∧ w'.cell? ⟨b, off + j * 2 + 1, none⟩ = some (.int .i64 (k : Int))) (first | assumption | exact HKC.out _ (BW.out.alloc BW.out.size _)) (first
        | (have tok := T0.out
           refine step_append_row (by rfl) (.tmp 12) (.tmp 19) (by rfl) E0 w.heap.size _ m (cells8 (encs (l.take j))) (by rfl) ?_ _ 1 (cells8 [k]) (by rfl) ?_ (ones8 _) ?_ ?_ ?_ (m+1) (by rfl) ?_
           · exact own_keep S.out ((Below.refl _ _).alloc (Nat.le_refl _) _)
           · exact Row.one _ _ _
           · unfold maxLen;omega
           · omega
           · exact (BW.out.alloc BW.out.size _).size
           intro A1 c1 w1 hown hgr hat hb1
           replace BW:=hid ((BW.out.alloc BW.out.size _).trans hb1)
           replace S:=hid hown
           clear hown hgr hat hb1 tok T0
           have T1:=hid True.intro
           replace kc:=HKC.out _ BW.out)
        | (go_at_call 42; have tok := T1.out; refine (CB.out _).mono ?_; rintro e w2 ⟨A2, c2, rfl, h4, ho, hbb⟩; have U := hid (Row.of_own ho); replace BW := hid (BW.out.trans (hbb.mono BW.out.size)); replace S := hid (own_keep S.out hbb); (clear ho hbb tok T1); have z4 : (s : Int) ≤ (c2 : Int) := by omega
           have z5:(4:Int)≤(c2:Int):=by omega
           replace kc:=HKC.out _ BW.out)
        | (go_at_call 125; have u := U.out; refine (CS.out _).mono ?_; rintro e w3 ⟨rfl, hbb⟩; replace BW := hid (BW.out.trans (hbb.mono BW.out.size)); replace S := hid (own_keep S.out hbb); have V := hid (u.keep hbb); (clear u U hbb)
           replace kc:=HKC.out _ BW.out)
        | (have v0 := V.out
           have v1:=v0.prefix_ (k:=s) hs4
           rw [Nat.mul_one,cells8_take] at v1
           refine step_append_row (by rfl) (.tmp 20) (.tmp 34) (by rfl) E0 w.heap.size _ (m+1) (cells8 (encs (l.take j)) ++ cells8 [k]) (by rfl) ?_ _ s (cells8 ((big a 4).take s)) (by rfl) ?_ (ones8 _) ?_ ?_ ?_ (m+1+s) (by rfl) ?_
           · exact S.out
           · exact v1
           · unfold maxLen;omega
           · omega
           · exact BW.out.size
           intro A4 c4 w4 hown hgr hat hb1
           replace BW:=hid (BW.out.trans hb1)
           replace S:=hid hown
           clear hown hgr hat hb1 v0 v1 V
           replace kc:=HKC.out _ BW.out))
      go_wp2
      go_roundw
      case rel =>
        have e:encs (l.take (j+1))=(encs (l.take j) ++ [k]) ++ (big a 4).take s:=by rw [HE.out,HSP.out,List.append_assoc]
        have e2 : (encs (l.take (j + 1))).length = m + 1 + s := by
          rw [e,List.length_append,List.length_append,← hm.out,List.length_take,big_len]
          simp;omega
        refine ⟨j+1,m+1+s,_,_,hlt,by go_num,rfl,hid e2.symm,by omega,hid ?_,BW⟩
        rw [e,cells8_append,cells8_append]
        exact S.out
      case measure=>simp [intOf];omega
    · have z1 : decide ((j : Int) < (l.length : Int)) = false := decide_eq_false (by omega)
      have HJ:=hid (show j=l.length by omega)
      go_wp2
      go_ret
      have h1:=hm.out
      have h2:=hown.out
      rw [HJ.out,List.take_length] at h1 h2
      subst h1
      exact ⟨_,_,rfl,h2,hb.out⟩
end PR
namespace PR
open Go.RowKit Mem Pfx Oct
theorem fill_app {a k:Nat} {r:List Nat} (hk:k≤4):fill ((big a 4).take k ++ r) k=(big a 4).take k ++ List.replicate (4 - k) 0:=by
 unfold fill
 rw [List.take_left' (by rw [List.length_take,big_len];omega)]
theorem val_fill {a k:Nat} (ha:a<4294967296) (hk:k≤4) (h:a % 256 ^ (4 - k)=0):val ((big a 4).take k ++ List.replicate (4 - k) 0)=a:=by
 rw [big4]
 match k,hk with
 | 0,_=>simp [val] at h ⊢;omega
 | 1,_=>simp [val] at h ⊢;omega
 | 2,_=>simp [val] at h ⊢;omega
 | 3,_=>simp [val] at h ⊢;omega
 | 4,_=>simp [val];omega
theorem good_low {a n:Nat} (hn:n≤32) (h:cutN a n=a):a % 256 ^ (4 - span n)=0:=by
 have h1:=(cut_iff_mod a n).1 h
 have h2:(256:Nat) ^ (4 - span n)=2 ^ (8*(4 - span n)):=by rw [Nat.pow_mul]
 have h3:8*(4 - span n)≤32 - n:=by unfold span;omega
 rw [h2]
 exact Nat.mod_eq_zero_of_dvd (Nat.dvd_trans (Nat.pow_dvd_pow 2 h3) (Nat.dvd_of_mod_eq_zero h1))
theorem enc_form {p:Pf} (h:good p=true):enc p=p.n.toNat :: (big p.a 4).take (span p.n.toNat):=by
 unfold enc
 congr 2
 unfold sizeN span
 rw [if_pos h]
 omega
theorem dec_enc {p:Pf} (hg:good p=true) (ha:p.a<4294967296) (r:List Nat):dec val (enc p ++ r)=(dec val r).map (p :: ·):=by
 obtain ⟨a,n⟩:=p
 obtain ⟨h0,h1⟩:=goodB_len hg
 obtain ⟨k,rfl⟩:=Int.eq_ofNat_of_zero_le h0
 have hk:k≤32:=by
  have h1':(k:Int)≤32:=h1
  omega
 have hc:cutN a k=a:=goodB_cut hg
 have hs:=span_le hk
 have hl:((big a 4).take (span k)).length=span k:=by rw [List.length_take,big_len];omega
 rw [enc_form hg]
 show dec val (k :: ((big a 4).take (span k) ++ r))=_
 rw [dec_ok val hk (by rw [List.length_append,hl];omega),List.drop_left' hl]
 have e:elemOf val k ((big a 4).take (span k) ++ r)=⟨a,(k:Int)⟩:=by
  unfold elemOf
  rw [fill_app hs,val_fill ha hs (good_low hk hc),hc]
 rw [e]
theorem dec_encs:∀ {l:List Pf},l.all good=true→Oks l→dec val (encs l)=some l
 | [],_,_=>by simp [encs,dec_nil]
 | p :: l,hg,ho=>by
  simp only [List.all_cons,Bool.and_eq_true] at hg
  have ih:=dec_encs hg.2 (fun q hq=>ho q (by simp [hq]))
  have e:encs (p :: l)=enc p ++ encs l:=by simp [encs]
  rw [e,dec_enc hg.1 (ho p (by simp)).1,ih]
  rfl
theorem encs_len:∀ {l:List Pf},l.all good=true→(encs l).length≤5*l.length
 | [],_=>by simp [encs]
 | p :: l,hg=>by
  simp only [List.all_cons,Bool.and_eq_true] at hg
  have ih:=encs_len hg.2
  have e:encs (p :: l)=enc p ++ encs l:=by simp [encs]
  have:=sizeN_le p
  rw [e,List.length_append,enc_len hg.1,List.length_cons]
  omega
theorem encs_small:∀ {l:List Pf},l.all good=true→Small (encs l)
 | [],_=>small_nil
 | p :: l,hg=>by
  simp only [List.all_cons,Bool.and_eq_true] at hg
  have e:encs (p :: l)=enc p ++ encs l:=by simp [encs]
  rw [e]
  exact (enc_small hg.1).append (encs_small hg.2)
end PR
namespace PR
open Go.RowKit Mem Pfx Oct
def adr (r:List Nat):Nat→Nat
 | 0=>0
 | i+1=>adr r i+r.getD i 0*2 ^ (24 - 8*i)
theorem getD_small {r:List Nat} (h:Small r) (i:Nat):r.getD i 0<256:=by
 rw [List.getD_eq_getElem?_getD]
 cases hx:r[i]? with
 | none=>simp
 | some x=>simpa using h x (List.mem_of_getElem? hx)
theorem adr_form {r:List Nat} (h:Small r):∀ {i:Nat},i≤4→∃ q,adr r i=2 ^ (32 - 8*i)*q∧q<256 ^ i
 | 0,_=>⟨0,by simp [adr],by simp⟩
 | i+1,hi=>by
  obtain ⟨q,hq,hq2⟩:=adr_form h (i:=i) (by omega)
  have hx:=getD_small h i
  refine ⟨q*256+r.getD i 0,?_,by rw [Nat.pow_succ];omega⟩
  show adr r i+_=_
  rw [hq]
  match i,hi with
  | 0,_=>simp;omega
  | 1,_=>simp;omega
  | 2,_=>simp;omega
  | 3,_=>simp;omega
theorem adr_lt {r:List Nat} (h:Small r) {i:Nat} (hi:i≤4):adr r i<4294967296:=by
 obtain ⟨q,hq,hq2⟩:=adr_form h hi
 rw [hq]
 match i,hi with
 | 0,_=>simp at hq2 ⊢;omega
 | 1,_=>simp at hq2 ⊢;omega
 | 2,_=>simp at hq2 ⊢;omega
 | 3,_=>simp at hq2 ⊢;omega
 | 4,_=>simp at hq2 ⊢;omega
theorem byte_pow {y i:Nat} (hx:y<256) (hi:i<4):y*2 ^ (24 - 8*i)<2 ^ (32 - 8*i):=by
 rw [show 32 - 8*i=8+(24 - 8*i) by omega,Nat.pow_add]
 exact Nat.mul_lt_mul_of_pos_right hx (Nat.pow_pos (by decide))
theorem pow_step {i:Nat} (hi:i<4):256 ^ (4 - i)=256*256 ^ (4 - (i+1))∧2 ^ (24 - 8*i)=256 ^ (4 - (i+1)):=by
 constructor
 ·rw [show 4 - i=1+(4 - (i+1)) by omega,Nat.pow_add]
 ·rw [show (256:Nat)=2 ^ 8 by rfl,← Nat.pow_mul]
  congr 1
  omega
theorem adr_or {r:List Nat} (h:Small r) {i:Nat} (hi:i<4):bits .or .u32 (adr r i:Int) (((r.getD i 0:Nat):Int)*2 ^ (24 - 8*i))=(adr r (i+1):Int):=by
 have hx:=getD_small h i
 have h1:=adr_lt h (i:=i) (by omega)
 have h2:=adr_lt h (i:=i+1) (by omega)
 have e1:(((r.getD i 0:Nat):Int)*2 ^ (24 - 8*i))=((r.getD i 0*2 ^ (24 - 8*i):Nat):Int):=by simp
 have h3:r.getD i 0*2 ^ (24 - 8*i)<4294967296:=by
  have:adr r (i+1)=adr r i+r.getD i 0*2 ^ (24 - 8*i):=rfl
  omega
 rw [e1,u32_or_nat _ _ h1 h3]
 congr 1
 obtain ⟨q,hq,_⟩:=adr_form h (i:=i) (by omega)
 have e2:=Nat.two_pow_add_eq_or_of_lt (i:=32 - 8*i) (b:=r.getD i 0*2 ^ (24 - 8*i)) (byte_pow hx hi) q
 show _=adr r i+_
 rw [hq,e2]
theorem shl_byte {x d:Nat} (hx:x<256) (hd:d≤24):IntKind.u32.wrap ((x:Int)*2 ^ d)=(x:Int)*2 ^ d:=by
 have h:x*2 ^ d<4294967296:=by
  have h1:2 ^ d≤2 ^ 24:=Nat.pow_le_pow_right (by omega) hd
  have h2:x*2 ^ d≤255*2 ^ 24:=Nat.mul_le_mul (by omega) h1
  omega
 have e:(x:Int)*2 ^ d=((x*2 ^ d:Nat):Int):=by simp
 rw [e,IntKind.wrap_u32]
 omega
theorem val_snoc0 (l:List Nat):∀ k,val (l ++ List.replicate k 0)=val l*256 ^ k
 | 0=>by simp
 | k+1=>by
  rw [List.replicate_succ',← List.append_assoc,val_snoc,val_snoc0 l k,Nat.pow_succ]
  simp [Nat.mul_assoc]
theorem val_adr {r:List Nat}:∀ {i:Nat},i≤4→i≤r.length→val (r.take i)*256 ^ (4 - i)=adr r i
 | 0,_,_=>by simp [val,adr]
 | i+1,hi,hr=>by
  have ih:=val_adr (r:=r) (i:=i) (by omega) (by omega)
  obtain ⟨x,hx⟩:∃ x,r[i]?=some x:=⟨_,List.getElem?_eq_getElem (by omega)⟩
  have e:r.getD i 0=x:=by rw [List.getD_eq_getElem?_getD,hx];rfl
  show _=adr r i+_
  rw [← ih,e,val_take hx]
  obtain ⟨p1,p2⟩:=pow_step (i:=i) (by omega)
  rw [p1,p2,Nat.add_mul,Nat.mul_assoc]
theorem fill_adr {r:List Nat} {i:Nat} (hi:i≤4) (hr:i≤r.length):val (fill r i)=adr r i:=by
 unfold fill
 rw [val_snoc0,val_adr hi hr]
theorem drop_rest (r:List Nat) (i:Nat):rest (r.drop i) (decide (r.length<i)) 1=r.drop (i+1):=by
 unfold rest fails
 split
 ·rename_i h
  simp only [Bool.or_eq_true,decide_eq_true_eq,List.length_drop] at h
  rw [List.drop_of_length_le (by omega)]
 ·rw [List.drop_drop];rfl
theorem drop_fails (r:List Nat) (i:Nat):fails (r.drop i) (decide (r.length<i)) 1=decide (r.length<i+1):=by
 unfold fails
 rw [Bool.eq_iff_iff]
 simp only [Bool.or_eq_true,decide_eq_true_eq,List.length_drop]
 omega
theorem drop_got (r:List Nat) (i:Nat):val (got (r.drop i) (decide (r.length<i)) 1)=r.getD i 0:=by
 unfold got
 rw [drop_fails,List.getD_eq_getElem?_getD]
 by_cases h:r.length<i+1
 ·rw [decide_eq_true h,if_pos rfl,List.getElem?_eq_none (by omega)];rfl
 ·rw [decide_eq_false h,if_neg (by decide),List.drop_eq_getElem_cons (by omega),List.getElem?_eq_getElem (by omega)]
  show val [r[i]]=r[i]
  show 0*256+r[i]=r[i]
  omega
end PR
namespace PR
open Go.RowKit Mem Pfx Oct Ahead
def DecO (b:List Nat) (w:World) (e:Ending) (w':World):Prop :=
 (dec val b=none∧e=.returned (.tuple #[.slice none 0 0,.int .i64 2])∧Below w.heap.size w w') ∨
 ∃ L A c,dec val b=some L∧e=.returned (.tuple #[.slice A L.length c,.int .i64 0])∧w'.ownsRow w.heap.size 67 2 (.slice A L.length c) L.length (pcells L)∧Oks L∧Below w.heap.size w w'
structure DecSt (w0:World) (nn b:Nat) (r:List Nat) (bad:Bool) (v:Value) (m:Nat) (out:List Value) (W:World):Prop where
 rd:R W w0.heap.size nn (.pointer (some ⟨b,0,none⟩)) r bad (fun k=>k=b)
 own:W.ownsRow nn 67 2 v m out
 low:Below w0.heap.size w0 W
 le:nn≤W.heap.size
 ge:w0.heap.size≤b∧b<nn
section
variable {w0 W W':World} {nn b m m':Nat} {r r':List Nat} {bad bad':Bool} {v v':Value} {out out':List Value}
theorem own_same2 {base:Nat} {e:TypeId} {n:Nat} {xs:List Value} (h:W.ownsRow base e 2 v n xs) (hk:∀ g,v.ownBlock=some g→W'.heap[g]?=W.heap[g]?):W'.ownsRow base e 2 v n xs:=by
 obtain ⟨h1,h2⟩:=h
 refine ⟨h1,?_⟩
 rcases h2 with h2 | ⟨g,cap,cur,hv,hg,hh,r⟩
 ·exact .inl h2
 ·exact .inr ⟨g,cap,cur,hv,hg,(hk g (by rw [hv];rfl)).trans hh,r⟩
theorem DecSt.below (h:DecSt w0 nn b r bad v m out W) (hb:Below W.heap.size W W'):DecSt w0 nn b r bad v m out W' :=
 ⟨h.rd.below hb,own_keep h.own hb,h.low.trans (hb.mono h.low.size),Nat.le_trans h.le hb.size,h.ge⟩
theorem DecSt.read (h:DecSt w0 nn b r bad v m out W) (hr:R W' w0.heap.size nn (.pointer (some ⟨b,0,none⟩)) r' bad' (fun k=>k=b)) (ho:Only (fun k=>k=b) W W'):DecSt w0 nn b r' bad' v m out W':=by
 refine ⟨hr,own_same2 h.own fun g hg=>ho.block g (h.own.lt g hg).2 (fun e=>?_),h.low.trans (ho.below (fun k hk=>by rw [hk];exact h.ge.1) h.low.size),Nat.le_trans h.le ho.size,h.ge⟩
 have h1:=(h.own.lt g hg).1
 have h2:=h.ge.2
 omega
theorem DecSt.grown (h:DecSt w0 nn b r bad v m out W) (ho:W'.ownsRow nn 67 2 v' m' out') (hb:Below nn W W'):DecSt w0 nn b r bad v' m' out' W' :=
 ⟨h.rd.keep (fun k hk=>hb.block k hk) hb.size,ho,h.low.trans (hb.mono (Nat.le_of_lt (Nat.lt_of_le_of_lt h.ge.1 h.ge.2))),Nat.le_trans h.le hb.size,h.ge⟩
end
theorem dec_start {b:List Nat} {w w1:World} {k:Nat} (hR:R w1 w.heap.size w1.heap.size (.pointer (some ⟨k,0,none⟩)) b false (fun j=>j=k)) (hb:Below w.heap.size w w1):DecSt w w1.heap.size k b false (.slice none 0 0) 0 [] w1:=by
 refine ⟨hR,⟨rfl,.inl ⟨rfl,rfl⟩⟩,hb,Nat.le_refl _,?_⟩
 have h:=hR.low k rfl
 exact h
theorem own_two2 (w:World) (o:Obj) (x y:Value) (t:TypeId):Row ((w.alloc o).alloc (.cells #[x,y] t)) 2 (.slice (some ⟨w.heap.size+1,0,none⟩) 1 1) 1 [x,y]:=by
 have h:=own_one2 (w:=w.alloc o) x y t
 have e:(w.alloc o).heap.size=w.heap.size+1:=by simp
 rw [e] at h
 exact h
def slen:Value→Nat
 | .slice _ n _=>n
 | _=>0
theorem head_reads {n:Nat} {r:List Nat}:val (got (n :: r) false 1)=n∧rest (n :: r) false 1=r∧fails (n :: r) false 1=false:=by
 have h:fails (n :: r) false 1=false:=by
  simp only [fails,Bool.false_or,Bool.or_eq_false_iff,decide_eq_false_iff_not,List.length_cons]
  omega
 refine ⟨?_,?_,h⟩
 ·unfold got
  rw [h,if_neg (by decide)]
  show 0*256+n=n
  omega
 ·unfold rest
  rw [h,if_neg (by decide)]
  rfl
theorem decode_own (v:Value) (b:List Nat) (w:World) (hv:U8s w v b) (hl:b.length≤100000):Calls Tryz.prog 89 #[v] w (DecO b w):=by
 obtain ⟨i0,E0⟩:=elemP
 have HS:=hid hv.2
 have CN:=hid (new_any v b w hv (by omega))
 clear hv
 have CL:=hid (fun (w0:World) (nn k:Nat) (r:List Nat) (bad:Bool) (v:Value) (m:Nat) (out:List Value) (W:World) (h:DecSt w0 nn k r bad v m out W)=>left_any _ _ nn r bad _ W h.rd)
 have CB:=hid (fun (w0:World) (nn k:Nat) (r:List Nat) (bad:Bool) (v:Value) (m:Nat) (out:List Value) (W:World) (h:DecSt w0 nn k r bad v m out W)=>bad_any _ _ nn r bad _ W h.rd)
 go_enter Tryz.func89,Tryz.ntmps89
 go_wp2
 refine wp_scope_ahead 0 (by rfl) ?_
 go_wp2_with (go_at_call 81;refine (CN.out).mono ?_;rintro e w1 ⟨k,rfl,hR,hb⟩;have S0:=hid (dec_start hR hb);clear hR hb)
 go_loopw [4] (fun v4 wx=>∃ (m:Nat) (A:Option Addr) (c:Nat) (rs:List Nat) (out:List Pf),v4=.slice A m c∧m+rs.length≤b.length∧Hid (m=out.length)∧Hid (Small rs)∧Hid (Oks out)∧Hid (Left val b out rs)∧Hid (DecSt w w1.heap.size k rs false v4 m (pcells out) wx)) (fun v4 _=>b.length - slen v4)
 case atStart=>exact ⟨0,none,0,b,[],rfl,by omega,hid rfl,HS,hid oks_nil,hid (left_start _ _),S0⟩
 case round =>
  obtain ⟨m,Ar,cr,rs,out,rfl,hml,hm,hrs,hok,hleft,S1⟩:=hrel
  have CLS:=hid (CL.out _ _ _ _ _ _ _ _ _ S1.out)
  have CUS:=hid (fun (F:Nat→Prop) (W:World) (h:R W w.heap.size w1.heap.size (.pointer (some ⟨k,0,none⟩)) rs false F)=>u8_any _ _ _ rs false F W hrs.out h)
  cases rs with
  | nil =>
   go_wp2_with (go_at_call 87;refine (CLS.out).mono ?_;rintro e w2 ⟨rfl,hb⟩;have S2:=hid (S1.out.below hb);clear hb)
   rw [jump_ret]
   go_ret2
   have h1:=hm.out
   subst h1
   exact .inr ⟨out,_,_,left_done hleft.out,rfl,own_base S2.out.own (Nat.le_of_lt (Nat.lt_of_le_of_lt S2.out.ge.1 S2.out.ge.2)),hok.out,S2.out.low⟩
  | cons n r =>
   have hn256:n<256:=hrs.out n (by simp)
   have HR:=hid (show Small r from fun x hx=>hrs.out x (by simp [hx]))
   obtain ⟨g1,g2,g3⟩:=head_reads (n:=n) (r:=r)
   rw [g1] at CUS
   have HG:=hid (And.intro g2 g3)
   have zl:(0:Int)<((n :: r).length:Int):=by simp
   have hml2:m+r.length+1≤b.length:=by simp at hml;omega
   clear g1 g2 g3 hml
   generalize (n :: r).length=L at CLS zl
   by_cases hn32:n≤32
   ·obtain ⟨s,hs⟩:∃ s,s=span n:=⟨_,rfl⟩
    have hs4:s≤4:=hs ▸ span_le hn32
    obtain ⟨q,hq⟩:∃ q,q=1+s:=⟨_,rfl⟩
    have CS:=hid (fun (W:World)=>show Calls Tryz.prog 132 #[.agg #[.int .u32 0,.int .i64 n]] W (Tells (.int .i64 q) W) from by
     have h:=size_any ⟨0,(n:Int)⟩ W (by show 0<4294967296;omega)
     rw [size_zero hn32,← hs,← hq] at h
     exact h)
    have q1:((q:Int) == 0)=false:=by simp;omega
    have wq:IntKind.i64.wrap ((q:Int) - 1)=(s:Int):=by rw [IntKind.wrap_i64];omega
    have HS2:=hid hs
    clear hs hq
    go_wp2_with (first
     | (go_at_call 87;refine (CLS.out).mono ?_;rintro e w2 ⟨rfl,hb⟩;have S2:=hid (S1.out.below hb);clear hb)
     | (go_at_call 82;refine (CUS.out _ _ S2.out.rd).mono ?_;rintro e w3 ⟨rfl,hR,ho⟩;rw [HG.out.1,HG.out.2] at hR;have S3:=hid (S2.out.read hR ho);clear hR ho)
     | (go_at_call 132;refine (CS.out _).mono ?_;rintro e w4 ⟨rfl,hb⟩;have S4:=hid (S3.out.below hb);clear hb))
    have CP:=hid place_any
    go_loopw [7,26] (fun v7 v26 wx=>∃ i:Nat,i≤s∧v26=.int .i64 i∧v7=.int .u32 (adr r i)∧Hid (DecSt w w1.heap.size k (r.drop i) (decide (r.length<i)) (.slice Ar m cr) m (pcells out) wx)) (fun _ v26 _=>8 - (intOf v26).toNat)
    case atStart=>exact ⟨0,Nat.zero_le _,rfl,rfl,S4⟩
    case round =>
     obtain ⟨i,hi,rfl,rfl,S5⟩:=hrel
     by_cases his:i<s
     ·have t0:(0:Int)≤(i:Int):=by omega
      have t1:(i:Int)<(s:Int):=by omega
      obtain ⟨d,hd⟩:∃ d,d=24 - 8*i:=⟨_,rfl⟩
      have CPI:=hid (fun W=>CP.out i (by omega) W)
      rw [← hd] at CPI
      have d24:(d:Int)≤24:=by omega
      have hd0:(0:Int)≤(d:Int):=by omega
      have CUI:=hid (fun (F:Nat→Prop) (W:World) (h:R W w.heap.size w1.heap.size (.pointer (some ⟨k,0,none⟩)) (r.drop i) (decide (r.length<i)) F)=>u8_any _ _ _ _ _ F W (HR.out.drop i) h)
      rw [drop_got] at CUI
      have hx:=getD_small HR.out i
      have ho:=adr_or HR.out (i:=i) (by omega)
      rw [← hd] at ho
      have hw:=shl_byte (x:=r.getD i 0) (d:=d) hx (by omega)
      generalize r.getD i 0=x at CUI hx ho hw
      generalize adr r i=a0 at ho ⊢
      have HA1:=hid (adr_lt HR.out (i:=i+1) (by omega))
      clear hd
      go_wp2_with (first
       | (go_at_call 82;refine (CUI.out _ _ S5.out.rd).mono ?_;rintro e w6 ⟨rfl,hR,ho⟩;rw [drop_rest,drop_fails] at hR;have S6:=hid (S5.out.read hR ho);clear hR ho)
       | (go_at_call 133;refine (CPI.out _).mono ?_;rintro e x1 ⟨rfl,rfl⟩))
      go_roundw
      case rel=>exact ⟨i+1,his,by go_num,rfl,S6⟩
      case measure=>simp [intOf];omega
     ·obtain rfl:i=s:=by omega
      have z2:decide ((i:Int)<(i:Int))=false:=decide_eq_false (by omega)
      have CBS:=hid (CB.out _ _ _ _ _ _ _ _ _ S5.out)
      by_cases hir:i≤r.length
      ·have hbf:decide (r.length<i)=false:=decide_eq_false (by omega)
       rw [hbf] at CBS S5
       have hV:=adr_lt HR.out hs4
       have HV:=hid (fill_adr hs4 hir)
       have HN:=hid (left_next hleft.out hn32 (by rw [← HS2.out];exact hir))
       have HEL:=hid (show elemOf val n r=⟨cutN (adr r i) n,(n:Int)⟩ by rw [← HV.out,HS2.out];rfl)
       have CM:=hid (fun W=>make_in (adr r i) n hV hn32 W)
       have HCL:=hid (Nat.lt_of_le_of_lt (cutN_le (adr r i) n) hV)
       generalize adr r i=V at CM HEL HCL
       generalize cutN V n=D at CM HEL HCL
       clear hbf hV
       go_wp2_with (first
        | (go_at_call 85;refine (CBS.out).mono ?_;rintro e w6 ⟨rfl,hb⟩;have S6:=hid (S5.out.below hb);clear hb)
        | (go_at_call 134;refine (CM.out _).mono ?_;rintro e w7 ⟨rfl,hb⟩;have S7:=hid (S6.out.below hb);have S8:=hid (S7.out.below ((Below.refl _ w7).alloc (Nat.le_refl _) (.cells #[.int .u32 D,.int .i64 n] 67)));have S9:=hid (S8.out.below ((Below.refl _ _).alloc (Nat.le_refl _) (.cells #[.int .u32 D,.int .i64 n] 67)));clear hb)
        | (at_builtin;refine wpList_append_row rfl (.tmp 46) (.tmp 48) rfl E0 w1.heap.size _ m (pcells out) rfl S9.out.own _ 1 (pcells [⟨D,(n:Int)⟩]) rfl (own_two2 _ _ _ _ _) (ones_p _) (by unfold maxLen;omega) (by omega) S9.out.le (m+1) rfl ?_;intro A4 c4 w8 hown4 hg4 hat4 hb4;have SA:=hid (S9.out.grown hown4 hb4);clear hown4 hg4 hat4 hb4))
       go_roundw
       case rel =>
        have h:=SA.out
        rw [← pcells_append] at h
        refine ⟨m+1,_,_,r.drop i,out ++ [⟨D,(n:Int)⟩],rfl,by rw [List.length_drop];omega,hid (by rw [List.length_append,← hm.out];rfl),hid (HR.out.drop i),hid (hok.out.append fun p hp=>?_),hid (by rw [HS2.out];rw [← HEL.out];exact HN.out),hid h⟩
        simp only [List.mem_singleton] at hp
        subst hp
        refine ⟨HCL.out,?_⟩
        simp [Lit.wf,IntKind.min,IntKind.max,IntKind.signed,IntKind.bits]
        omega
       case measure=>simp [slen];omega
      ·have hbt:decide (r.length<i)=true:=decide_eq_true (by omega)
       rw [hbt] at CBS S5
       have HD:=hid (left_bad hleft.out (.inr (by rw [← HS2.out];omega)))
       clear hbt
       go_wp2_with (first
        | (go_at_call 85;refine (CBS.out).mono ?_;rintro e w6 ⟨rfl,hb⟩;have S6:=hid (S5.out.below hb);clear hb))
       go_step3
       refine ⟨rfl,?_⟩
       go_wp2
       rw [Exit.noGoto_ret]
       go_ret2
       exact .inl ⟨HD.out,rfl,S6.out.low⟩
   ·have CS:=hid (fun (W:World)=>show Calls Tryz.prog 132 #[.agg #[.int .u32 0,.int .i64 n]] W (Tells (.int .i64 0) W) from by
     have h:=size_any ⟨0,(n:Int)⟩ W (by show 0<4294967296;omega)
     rw [size_big (by omega)] at h
     exact h)
    have HD:=hid (left_bad hleft.out (.inl (by omega)))
    go_wp2_with (first
     | (go_at_call 87;refine (CLS.out).mono ?_;rintro e w2 ⟨rfl,hb⟩;have S2:=hid (S1.out.below hb);clear hb)
     | (go_at_call 82;refine (CUS.out _ _ S2.out.rd).mono ?_;rintro e w3 ⟨rfl,hR,ho⟩;rw [HG.out.1,HG.out.2] at hR;have S3:=hid (S2.out.read hR ho);clear hR ho)
     | (go_at_call 132;refine (CS.out _).mono ?_;rintro e w4 ⟨rfl,hb⟩;have S4:=hid (S3.out.below hb);clear hb))
    go_step3
    refine ⟨rfl,?_⟩
    go_wp2
    rw [Exit.noGoto_ret]
    go_ret2
    exact .inl ⟨HD.out,rfl,S4.out.low⟩
end PR
namespace PR
open Go.RowKit Mem Pfx Oct
def EncP (l:List Pf) (w:World) (e:Ending) (w':World):Prop :=
 (l.all good=false∧e=.returned (.tuple #[.slice none 0 0,.int .i64 1])∧Below w.heap.size w w') ∨
 (l.all good=true∧∃ A c,e=.returned (.tuple #[.slice A (encs l).length c,.int .i64 0])∧w'.ownsRow w.heap.size 5 1 (.slice A (encs l).length c) (encs l).length (cells8 (encs l))∧Below w.heap.size w w')
structure EncSt (w0:World) (P:Value) (l:List Nat) (F:Nat→Prop) (B:Nat) (a:Nat) (n:Int) (W:World):Prop where
 wr:Wr W w0.heap.size P l F
 nb:¬ F B
 lt:B<W.heap.size
 c0:W.cell? ⟨B,0,none⟩=some (.int .u32 a)
 c1:W.cell? ⟨B,1,none⟩=some (.int .i64 n)
 low:Below w0.heap.size w0 W
section
variable {w0 W W':World} {P:Value} {l l':List Nat} {F F':Nat→Prop} {B a:Nat} {n:Int}
theorem EncSt.below (h:EncSt w0 P l F B a n W) (hb:Below W.heap.size W W'):EncSt w0 P l F B a n W' :=
 ⟨h.wr.below hb,h.nb,Nat.lt_of_lt_of_le h.lt hb.size,(hb.cell (p:=⟨B,0,none⟩) h.lt).trans h.c0,(hb.cell (p:=⟨B,1,none⟩) h.lt).trans h.c1,h.low.trans (hb.mono h.low.size)⟩
theorem EncSt.wrote (h:EncSt w0 P l F B a n W) (hw:Wr W' w0.heap.size P l' F') (ho:Only F W W') (hg:Grow F F' W):EncSt w0 P l' F' B a n W':=by
 have hk:W'.heap[B]?=W.heap[B]?:=ho.block B h.lt h.nb
 refine ⟨hw,fun hf=>?_,Nat.lt_of_lt_of_le h.lt ho.size,?_,?_,h.low.trans (ho.below (fun k hk=>(h.wr.lt k hk).1) h.low.size)⟩
 ·rcases hg B hf with h1 | h1
  ·exact h.nb h1
  ·have:=h.lt;omega
 ·have:=h.c0;unfold World.cell? at this ⊢;simp only [hk];exact this
 ·have:=h.c1;unfold World.cell? at this ⊢;simp only [hk];exact this
theorem EncSt.start (h:Wr W w0.heap.size P l F) (hb:Below w0.heap.size w0 W):EncSt w0 P l F W.heap.size a n (W.alloc (.cells #[.int .u32 a,.int .i64 n] 67)):=by
 obtain ⟨c0,c1⟩:=cells_two W (.int .u32 (a:Int)) (.int .i64 n) 67
 refine ⟨h.below ((Below.refl _ _).alloc (Nat.le_refl _) _),fun hf=>?_,by simp,c0,c1,hb.alloc hb.size _⟩
 have:=(h.lt _ hf).2
 omega
end
theorem big_at {a i:Nat} (hi:i<4):(big a 4).take (i+1)=(big a 4).take i ++ [a / 2 ^ (24 - 8*i) % 256]:=by
 rw [big4]
 match i,hi with
 | 0,_=>simp
 | 1,_=>simp
 | 2,_=>simp
 | 3,_=>simp
theorem lo8_wrap (x:Int):lo8 (IntKind.i64.wrap x)=lo8 x:=by
 unfold lo8
 rw [IntKind.wrap_i64]
 omega
theorem encode_any (v:Value) (l:List Pf) (w:World) (hv:Pfxs w v l) (hl:l.length≤1000):Calls Tryz.prog 105 #[v] w (EncP l w):=by
 have HV:=hid hv
 obtain ⟨A,c,rfl,hlc,hc⟩:=hv.form
 clear hv
 have h0:=wr_zero w (Nat.le_refl w.heap.size)
 have hb0:Below w.heap.size w (w.alloc (.cells #[.slice none 0 0] 97)):=(Below.refl _ w).alloc (Nat.le_refl _) _
 go_enter Tryz.func105,Tryz.ntmps105
 go_wp2
 go_loopw [11] (fun v11 wx=>∃ (j:Nat) (F:Nat→Prop),j≤l.length∧v11=.int .i64 j∧Hid ((l.take j).all good=true)∧Hid (Wr wx w.heap.size (.pointer (some ⟨w.heap.size,0,none⟩)) (encs (l.take j)) F)∧Hid (Below w.heap.size w wx)) (fun v11 _=>l.length - (intOf v11).toNat)
 case atStart=>exact ⟨0,_,Nat.zero_le _,rfl,hid rfl,hid h0,hid hb0⟩
 case round =>
  obtain ⟨j,F,hj,rfl,hgj,hW,hb⟩:=hrel
  by_cases hlt:j<l.length
  ·obtain ⟨p,hp⟩:∃ p,l[j]?=some p:=⟨_,List.getElem?_eq_getElem hlt⟩
   obtain ⟨b,off,rfl,hbl,k0,k1⟩:=(HV.out.keep hb.out).at_ hp
   have hok:=(HV.out).2 p (List.mem_of_getElem? hp)
   have z0:(0:Int)≤(j:Int):=by omega
   have z1:(j:Int)<(l.length:Int):=by omega
   obtain ⟨a,n⟩:=p
   dsimp only at k0 k1
   have HA:=hid (show a<4294967296 from hok.1)
   have S0:=hid (EncSt.start (a:=a) (n:=n) hW.out hb.out)
   have d0:=S0.out.c0
   have d1:=S0.out.c1
   have CS:=hid (fun (W:World)=>size_any ⟨a,n⟩ W hok.1)
   unfold pV at CS
   dsimp only at CS
   have HAT:=hid (all_take hp)
   by_cases hgp:good ⟨a,n⟩=true
   ·have HLE:=hid (encs_len hgj.out)
    have HTL:=hid (show (l.take j).length=j by rw [List.length_take];omega)
    obtain ⟨hn0,hn1⟩:=goodB_len hgp
    obtain ⟨k,rfl⟩:=Int.eq_ofNat_of_zero_le hn0
    obtain ⟨s,hs,hs4⟩:∃ s,sizeN ⟨a,(k:Int)⟩=s+1∧s≤4:=by
     have h1:=sizeN_le ⟨a,(k:Int)⟩
     have h2:1≤sizeN ⟨a,(k:Int)⟩:=by unfold sizeN;rw [if_pos hgp];omega
     exact ⟨sizeN ⟨a,(k:Int)⟩ - 1,by omega,by omega⟩
    have HSP:=hid (show (enc ⟨a,(k:Int)⟩)=[k] ++ (big a 4).take s by unfold enc;rw [hs];simp)
    rw [hs] at CS
    obtain ⟨q,hq⟩:∃ q,q=s+1:=⟨_,rfl⟩
    rw [← hq] at CS
    have q1:((q:Int) == 0)=false:=by simp;omega
    have wq:IntKind.i64.wrap ((q:Int) - 1)=(s:Int):=by rw [IntKind.wrap_i64];omega
    have HGP:=hid hgp
    have HE:=hid (encs_take hp)
    have hk32:(k:Int)≤32:=hn1
    have hko:lo8 (k:Int)=k:=by unfold lo8;omega
    have CU:=hid (fun (F:Nat→Prop) (W:World) (h:EncSt w (.pointer (some ⟨w.heap.size,0,none⟩)) (encs (l.take j)) F wr.heap.size a (k:Int) W)=>w8_put _ _ _ F (k:Int) W h.wr (by have h1:=HLE.out;rw [HTL.out] at h1;omega) h.low.size)
    rw [hko] at CU
    have y0:(0:Int)≤(s:Int):=by omega
    have y4:(s:Int)≤4:=by omega
    clear hp hgp hs hok hn0 hn1 hko hq
    go_wp2_with (first
     | (go_at_call 132;refine (CS.out _).mono ?_;rintro e w1 ⟨rfl,hb1⟩;have S1:=hid (S0.out.below hb1);clear hb1 d0 d1;have d1:=S1.out.c1)
     | (go_at_call 62;refine (CU.out _ _ S1.out).mono ?_;rintro e w2 ⟨F2,rfl,hW2,ho2,hg2⟩;have S2:=hid (S1.out.wrote hW2 ho2 hg2);clear hW2 ho2 hg2 d1))
    have CP:=hid place_any
    have CV:=hid (fun (F:Nat→Prop) (m:List Nat) (n:Int) (W:World) (h:EncSt w (.pointer (some ⟨w.heap.size,0,none⟩)) (encs (l.take j) ++ m) F wr.heap.size a (k:Int) W) (hm:m.length≤10)=>w8_put _ _ _ F n W h.wr (by have h1:=HLE.out;rw [HTL.out] at h1;rw [List.length_append];omega) h.low.size)
    have HS2:=hid (show EncSt w (.pointer (some ⟨w.heap.size,0,none⟩)) (encs (l.take j) ++ ([k] ++ (big a 4).take 0)) F2 wr.heap.size a (k:Int) w2 from S2.out)
    obtain ⟨wo,hwo⟩:∃ x,x=wr:=⟨_,rfl⟩
    subst hwo
    go_loopw [24] (fun v24 wx=>∃ (i:Nat) (F:Nat→Prop),i≤s∧v24=.int .i64 i∧Hid (EncSt w (.pointer (some ⟨w.heap.size,0,none⟩)) (encs (l.take j) ++ ([k] ++ (big a 4).take i)) F wo.heap.size a (k:Int) wx)) (fun v24 _=>8 - (intOf v24).toNat)
    case atStart=>exact ⟨0,F2,Nat.zero_le _,rfl,HS2⟩
    case round =>
     obtain ⟨i,F3,hi,rfl,S3⟩:=hrel
     by_cases his:i<s
     ·have t0:(0:Int)≤(i:Int):=by omega
      have t1:(i:Int)<(s:Int):=by omega
      obtain ⟨d,hd⟩:∃ d,d=24 - 8*i:=⟨_,rfl⟩
      have CPI:=hid (fun W=>CP.out i (by omega) W)
      rw [← hd] at CPI
      have d24:(d:Int)≤24:=by omega
      have hd0:(0:Int)≤(d:Int):=by omega
      have HBA:=hid (big_at (a:=a) (i:=i) (by omega))
      rw [← hd] at HBA
      have D0:=hid (S3.out.below (Below.refl wr.heap.size wr).drew)
      have e0:=D0.out.c0
      clear hd
      go_wp2
      go_region_held3 (fun w'=>w'.cell? ⟨wo.heap.size,0,none⟩=some (.int .u32 a)) (assumption) (first
       | (go_at_call 133;refine (CPI.out _).mono ?_;rintro e x1 ⟨rfl,rfl⟩)
       | (go_at_call 62;refine (CV.out _ _ _ _ D0.out (by simp;omega)).mono ?_;rintro e x2 ⟨F4,rfl,hW4,ho4,hg4⟩;have S4:=hid (D0.out.wrote hW4 ho4 hg4);clear hW4 ho4 hg4;have e1:=S4.out.c0))
      go_wp2
      go_roundw
      case rel =>
       refine ⟨i+1,F4,his,by go_num,hid ?_⟩
       have h:=S4.out
       rw [HBA.out,← List.append_assoc [k],← List.append_assoc]
       have e9:lo8 ((a:Int) / 2 ^ d)=a / 2 ^ d % 256:=by
        have e8:=lo8_div a (2 ^ d)
        rw [← e8]
        congr 2
       rw [← e9,← lo8_wrap]
       exact h
      case measure=>simp [intOf];omega
     ·obtain rfl:i=s:=by omega
      have z2:decide ((i:Int)<(i:Int))=false:=decide_eq_false (by omega)
      go_wp2
      go_roundw
      case rel =>
       refine ⟨j+1,F3,hlt,by go_num,hid ?_,hid ?_,hid S3.out.low⟩
       ·rw [HAT.out,hgj.out,HGP.out];rfl
       ·rw [HE.out,HSP.out]
        exact S3.out.wr
      case measure=>simp [intOf];omega
   ·have hbad:good ⟨a,n⟩=false:=by simpa using hgp
    have HBD:=hid (all_bad hp hbad)
    rw [show sizeN ⟨a,n⟩=0 by unfold sizeN;rw [hbad];rfl] at CS
    clear hp hgp hbad hok
    go_wp2_with (go_at_call 132;refine (CS.out _).mono ?_;rintro e w1 ⟨rfl,hb1⟩;have S1:=hid (S0.out.below hb1);clear hb1 d0 d1)
    go_ret2
    exact .inl ⟨HBD.out,rfl,S1.out.low⟩
  ·have z1:decide ((j:Int)<(l.length:Int))=false:=decide_eq_false (by omega)
   obtain rfl:j=l.length:=by omega
   have HG:=hgj.out
   rw [List.take_length] at HG
   have HL:=hid (encs_len HG)
   have HG2:=hid HG
   have CB:=hid (wbytes_any _ _ _ F wr (by have h:=hW.out;rw [List.take_length] at h;exact h) (by have:=HL.out;omega))
   clear HG
   go_wp2_with (go_at_call 63;refine (CB.out).mono ?_;rintro e w1 ⟨A1,c1,rfl,ho,hb1⟩;have O1:=hid (own_base ho hb.out.size);have B1:=hid (hb.out.trans (hb1.mono hb.out.size));clear ho hb1)
   go_ret2
   exact .inr ⟨HG2.out,_,_,rfl,O1.out,B1.out⟩
end PR
end Go.Proofs.YtjfmompgkkdliaaGreatDoor
