/- Part of the proof. -/
import Derived.Test.YtjfmompgkkdliaaGreatDoorH42
import Derived.Test.YtjfmompgkkdliaaGreatDoorH24
import Derived.Test.YtjfmompgkkdliaaGreatDoorH03
open Go.Lib (hid)
set_option maxRecDepth 100000
set_option maxHeartbeats 40000000
namespace Go.Proofs.YtjfmompgkkdliaaGreatDoor
namespace Msg
open Go.RowKit Mem Segm Oct Att PR Opn Upd Ntc Frm
open Go.Lib (hid)
def DecL (m:Ms) (n:No) (w:World) (e:Ending) (w':World):Prop :=
 ∃ U N A k c,e=.returned (.tuple #[.agg (mcells m.kind (ocells m.op) U N).toArray,.agg #[.int .i64 n.code,.int .i64 n.sub,.slice A k c]])∧Parts (ocells m.op) U N∧Msgs w' (.agg (mcells m.kind (ocells m.op) U N).toArray) m∧Note w' (.agg #[.int .i64 n.code,.int .i64 n.sub,.slice A k c]) n∧Below w.heap.size w w'
theorem dec_lit {k:Int} {b:List Nat} {v:Value} {w w':World} {e:Ending} (h:DecG k b v w e w'):DecL (decM k b).1 (decM k b).2 w e w':=by
 obtain ⟨U,N,x0,x1,x2,rfl,hp,hf,hn,hb⟩:=h
 have hm:=(hf (fun _=>True) (fun _ _=>trivial) (fun _ _ _ _=>trivial)).now
 have h4:=hn
 obtain ⟨-,-,vd,e,hd⟩:=h4
 obtain ⟨A,c,rfl,-,-⟩:=hd.form
 injection e with e
 obtain ⟨rfl,rfl,rfl⟩:x0=.int .i64 (decM k b).2.code∧x1=.int .i64 (decM k b).2.sub∧x2=.slice A (decM k b).2.data.length c:=by simpa using e
 exact ⟨U,N,A,_,c,rfl,hp,hm,hn,hb⟩
theorem decodes_of (kind : Int) (v : Value) (b0 : List Nat) (w : World) (hv : U8s w v b0)
    (hP:∀ v b W,U8s W v b→b.length≤500→Below w.heap.size w W→Calls Tryz.prog 20 #[.agg #[.int .i64 kind,v]] W (DecL (decM kind b).1 (decM kind b).2 W))
    (hR:∀ v b W,U8s W v b→b.length≤500→Calls Tryz.prog 21 #[.int .i64 kind,v] W (DecL (decM kind b).1 (decM kind b).2 W))
    (hL:∀ W,Below w.heap.size w W→Calls Tryz.prog 15 #[] W (Tells (.bool true) W)):Calls Tryz.prog 4 #[.int .i64 kind,v] w (Tells (.bool true) w):=by
  have hls:Small (b0.take 500):=hv.2.take 500
  have hl2:(b0.take 500).length≤500:=by rw [List.length_take];omega
  have C1:=hid (show Calls Tryz.prog 19 #[v,.int .i64 500] w (Gives8 (b0.take 500) w) from bytes_any v b0 500 w hv (by decide))
  clear hv
  generalize b0.take 500=L0 at hls hl2 C1
  have C2 := hid (fun (v : Value) (W : World) (h : U8s W v L0) => show Calls Tryz.prog 19 #[v, .int .i64 500] W (Gives8 L0 W) from by
    have h3:=bytes_any v L0 500 W h (by decide)
    rw [List.take_of_length_le hl2] at h3
    exact h3)
  have HLS:=hid hls
  have CP:=hid (fun v W (h:U8s W v L0) (hb:Below w.heap.size w W)=>hP v L0 W h hl2 hb)
  have CR:=hid (fun v W (h:U8s W v L0)=>hR v L0 W h hl2)
  have CL:=hid hL
  clear hP hR hL hls hl2
  generalize decM kind L0=DM at CP CR
  obtain ⟨m,n⟩:=DM
  have CS := hid (fun va vb W (h1 : Msgs W va m) (h2 : Msgs W vb m) => show Calls Tryz.prog 11 #[va, vb] W (Tells (.bool true) W) from by
    have h3:=rsame13 va vb m m W h1 h2
    rw [show sameM m m=true from sameM_iff.2 rfl] at h3
    exact h3)
  have CT := hid (fun va vb W (h1 : Note W va n) (h2 : Note W vb n) => show Calls Tryz.prog 22 #[va, vb] W (Tells (.bool true) W) from by
    have h3:=told_any va vb n n W h1 h2
    rw [sameN_iff.2 rfl] at h3
    exact h3)
  obtain ⟨mk,mo,mu,mn⟩:=m
  obtain ⟨cd,sb,dd⟩:=n
  unfold DecL at CP CR
  dsimp only at CP CR
  have T0:=hid True.intro
  go_enter Tryz.func4,Tryz.ntmps4
  go_wp2_with (first
    | (have h:=O1.out;go_at_call 19;refine (C2.out _ _ (U8s.of_own h HLS.out)).mono ?_;rintro e w2 ⟨A2,c2,rfl,ho,hb⟩;have O2:=hid (U8s.of_own ho HLS.out);have B2:=hid (B1.out.trans (hb.mono B1.out.size));have K2:=hid ((U8s.of_own h HLS.out).keep hb);clear ho hb h O1)
    | (go_at_call 19;refine C1.out.mono ?_;rintro e w1 ⟨A1,c1,rfl,ho,hb⟩;have O1:=hid ho;have B1:=hid hb;clear ho hb)
    | (go_at_call 20; have h := O2.out; refine (CP.out _ _ h B2.out).mono ?_; rintro e w3 ⟨U, N, A4, k4, c4, rfl, hp, hm, hN, hb⟩
       have HS:=hid (rd_start w3)
       unfold z19 z3 at HS
       obtain ⟨w4,hw4⟩:∃ w4,(w3.alloc (.cells #[.int .i64 0,.int .u32 0,.int .i64 0,.int .u32 0,.bool false,.slice none 0 0,.int .i64 0,.int .i64 0,.slice none 0 0,.int .u32 0,.int .u32 0,.int .u32 0,.int .u32 0,.int .u32 0,.slice none 0 0,.slice none 0 0,.int .i64 0,.int .i64 0,.slice none 0 0] 36)).alloc (.cells #[.int .i64 0,.int .i64 0,.slice none 0 0] 34)=w4:=⟨_,rfl⟩
       rw [hw4] at HS
       have B3:=hid (B2.out.trans (hb.mono B2.out.size));have K3:=hid (K2.out.keep hb);have P3:=hid hp;have M3:=hid hm;have N3:=hid hN;have T1:=hid True.intro;clear h O2 K2 B2 hp hm hN hb)
    | (have tok:=T1.out;refine store_m HS.out.1 P3.out _ _ rfl rfl rfl (by kernel_rfl) ?_;intro w5 hb ht;have X5:=hid hb;have HT:=hid ht;have T2:=hid tok;clear T1 tok hb ht)
    | (have tok:=T2.out;refine store_b (box3_turned HS.out.2.1 HT.out (Nat.succ_ne_self _)) _ _ rfl rfl rfl (by simp [Value.oneCell']) (by kernel_rfl) ?_;intro w6 hb ht;have X6:=hid (And.intro (X5.out.turned ht (Nat.succ_ne_self _).symm) hb);have L6:=hid (ht.low (Nat.le_succ _) (HT.out.low (Nat.le_refl _) HS.out.2.2.1));clear T2 tok hb ht HS X5 HT hw4)
    | (go_at_call 21; refine (CR.out _ _ (K3.out.keep L6.out)).mono ?_; rintro e w7 ⟨U2, N2, A5, k5, c5, rfl, hp, hm, hN, hb⟩
       have HS:=hid (rd_start w7)
       unfold z19 z3 at HS
       obtain ⟨w8,hw8⟩:∃ w8,(w7.alloc (.cells #[.int .i64 0,.int .u32 0,.int .i64 0,.int .u32 0,.bool false,.slice none 0 0,.int .i64 0,.int .i64 0,.slice none 0 0,.int .u32 0,.int .u32 0,.int .u32 0,.int .u32 0,.int .u32 0,.slice none 0 0,.slice none 0 0,.int .i64 0,.int .i64 0,.slice none 0 0] 36)).alloc (.cells #[.int .i64 0,.int .i64 0,.slice none 0 0] 34)=w8:=⟨_,rfl⟩
       rw [hw8] at HS
       have h6:=B3.out.trans (L6.out.mono B3.out.size)
       have B7:=hid (h6.trans (hb.mono h6.size));have X7:=hid (And.intro (X6.out.1.keep hb) (X6.out.2.keep hb));have P7:=hid hp;have M7:=hid (And.intro ((M3.out.keep L6.out).keep hb) hm);have N7:=hid (And.intro ((N3.out.keep L6.out).keep hb) hN);have T3:=hid True.intro;clear K3 L6 B3 X6 M3 N3 hp hm hN hb h6)
    | (have tok:=T3.out;refine store_m HS.out.1 P7.out _ _ rfl rfl rfl (by kernel_rfl) ?_;intro w9 hb ht;have X9:=hid hb;have HT:=hid ht;have T4:=hid tok;clear T3 tok hb ht)
    | (have tok := T4.out; refine store_b (box3_turned HS.out.2.1 HT.out (Nat.succ_ne_self _)) _ _ rfl rfl rfl (by simp [Value.oneCell']) (by kernel_rfl) ?_; intro x0 hb ht; have XM := hid (X9.out.turned ht (Nat.succ_ne_self _).symm); have XN := hid hb; have L0 := hid (ht.low (Nat.le_succ _) (HT.out.low (Nat.le_refl _) HS.out.2.2.1)); clear T4 tok hb ht HS X9 HT hw8
       have XX:=hid (And.intro (X7.out.1.keep L0.out) (X7.out.2.keep L0.out));have B0:=hid (B7.out.trans (L0.out.mono B7.out.size));have MM:=hid (And.intro (M7.out.1.keep L0.out) (M7.out.2.keep L0.out));have NN:=hid (And.intro (N7.out.1.keep L0.out) (N7.out.2.keep L0.out));clear X7 B7 M7 N7 L0;have T5:=hid True.intro;obtain ⟨⟨p0,p1,p2⟩,⟨g0,g1,g2⟩⟩:=And.intro XX.out.2.cells XN.out.cells)
    | (have tok:=T5.out;refine load_m XX.out.1 _ rfl rfl (by kernel_rfl) ?_;have T6:=hid tok;clear T5 tok)
    | (have tok:=T6.out;refine load_m XM.out _ rfl rfl (by kernel_rfl) ?_;clear T6 tok)
    | (go_at_call 11;refine (CS.out _ _ _ MM.out.1 MM.out.2).mono ?_;rintro e x1 ⟨rfl,hb⟩;have B1:=hid (B0.out.trans (hb.mono B0.out.size));replace NN:=hid (And.intro (NN.out.1.keep hb) (NN.out.2.keep hb));replace XX:=hid (XX.out.2.keep hb);replace XN:=hid (XN.out.keep hb);clear hb MM B0 p0 p1 p2 g0 g1 g2;obtain ⟨⟨p0,p1,p2⟩,⟨g0,g1,g2⟩⟩:=And.intro XX.out.cells XN.out.cells)
    | (go_at_call 22;refine (CT.out _ _ _ NN.out.1 NN.out.2).mono ?_;rintro e x2 ⟨rfl,hb⟩;have B2:=hid (B1.out.trans (hb.mono B1.out.size));clear hb NN XX XN p0 p1 p2 g0 g1 g2 B1)
    | (go_at_call 15;refine (CL.out _ B2.out).mono ?_;rintro e x3 ⟨rfl,hb⟩;have B3:=hid (B2.out.trans (hb.mono B2.out.size));clear hb))
  go_ret
  exact ⟨rfl,B3.out⟩
end Msg
end Go.Proofs.YtjfmompgkkdliaaGreatDoor
