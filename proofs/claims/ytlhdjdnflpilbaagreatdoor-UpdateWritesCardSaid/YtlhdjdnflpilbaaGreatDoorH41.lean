/- The program's Norm of attributes: in memory of its own. What is told of ways in memory of its own; a box of eleven cells that is laid anew. The program's take: numbers of four bytes off a reader. The program's next: an attribute off a reader. The program's notice: what is told of an attribute. The program's Path: the pieces of a path's bytes. What stands while an attribute's value is read: the attributes' box, the item's own, and the reader. -/
import Derived.Test.YtlhdjdnflpilbaaGreatDoorH22
import Derived.Test.YtlhdjdnflpilbaaGreatDoorH40
import Derived.Test.YtlhdjdnflpilbaaGreatDoorH38
import Derived.Test.YtlhdjdnflpilbaaGreatDoorH18
import Derived.Test.YtlhdjdnflpilbaaGreatDoorH06
import Derived.Test.YtlhdjdnflpilbaaGreatDoorH14
import Derived.Test.YtlhdjdnflpilbaaGreatDoorH12
import Derived.Test.YtlhdjdnflpilbaaGreatDoorH02
import Derived.Test.YtlhdjdnflpilbaaGreatDoorH19
import Derived.Test.YtlhdjdnflpilbaaGreatDoorH03
namespace Go.Proofs.YtlhdjdnflpilbaaGreatDoor.Att
open Go.RowKit Mem Segm Oct Rise
def NewAt (n : Nat) (v : Value) : Prop := ∀ b off m c, v = .slice (some ⟨b, off, none⟩) m c → 0 < m → n ≤ b
theorem u32_off {W W' : World} {n : Nat} {v : Value} {l : List Nat} (h : U32s W v l) (hn : NewAt n v) (hk : ∀ k, n ≤ k → W'.heap[k]? = W.heap[k]?) (hs : W.heap.size ≤ W'.heap.size) : U32s W' v l := by
 obtain ⟨⟨hl, A, c, rfl, hm, hc, hr⟩, hsm⟩ := h
 refine ⟨⟨hl, A, c, rfl, hm, hc, fun h0 => ?_⟩, hsm⟩
 obtain ⟨b, off, rfl, hlt, hcell⟩ := hr h0
 refine ⟨b, off, rfl, Nat.lt_of_lt_of_le hlt hs, fun i y hy => ?_⟩
 have h5 := hcell i y hy
 have h6 := hk b (hn b off _ c rfl h0)
 unfold World.cell? at h5 ⊢
 simp only [h6]
 exact h5
theorem NewAt.lower {n m : Nat} {v : Value} (h : NewAt n v) (hm : m ≤ n) : NewAt m v := fun b off k c e h0 => Nat.le_trans hm (h b off k c e h0)
theorem NewAt.nil (n : Nat) : NewAt n (.slice none 0 0) := fun b off m c e h0 => by injection e with e; cases e
def AtF (n : Nat) (W : World) (v : Value) (a : At) : Prop := a.ok ∧ ∃ vp vc, v = .agg (acells a vp vc).toArray ∧ OwnSegsF 117 n n W vp a.path ∧ U32s W vc a.comms ∧ NewAt n vc
theorem AtF.attrs {n : Nat} {W : World} {v : Value} {a : At} (h : AtF n W v a) : Attrs W v a := by
 obtain ⟨h1, vp, vc, h2, h3, h4, h5⟩ := h
 exact ⟨h1, vp, vc, h2, h3.segs, h4⟩
theorem AtF.off {n : Nat} {W W' : World} {v : Value} {a : At} (h : AtF n W v a) (hk : ∀ k, n ≤ k → W'.heap[k]? = W.heap[k]?) (hs : W.heap.size ≤ W'.heap.size) : AtF n W' v a := by
 obtain ⟨h1, vp, vc, h2, h3, h4, h5⟩ := h
 exact ⟨h1, vp, vc, h2, segs_off h3 hk hs, u32_off h4 h5 hk hs, h5⟩
theorem AtF.lower {n m : Nat} {W : World} {v : Value} {a : At} (h : AtF n W v a) (hm : m ≤ n) : AtF m W v a := by
 obtain ⟨h1, vp, vc, h2, h3, h4, h5⟩ := h
 exact ⟨h1, vp, vc, h2, h3.lower hm hm, h4, h5.lower hm⟩
theorem AtF.keep {n : Nat} {W W' : World} {v : Value} {a : At} (h : AtF n W v a) (hb : Below W.heap.size W W') : AtF n W' v a := by
 obtain ⟨h1, vp, vc, h2, h3, h4, h5⟩ := h
 exact ⟨h1, vp, vc, h2, h3.keep hb, h4.keep hb, h5⟩
theorem set_fresh (v : Value) (l : List Nat) (w : World) (hv : U32s w v l) (hlen : l.length < 5000) :
  Calls Tryz.prog 110 #[v] w (fun e w' => ∃ v', e = .returned v' ∧ U32s w' v' (setOf l) ∧ NewAt w.heap.size v' ∧ Below w.heap.size w w') := by
 rcases Nat.eq_zero_or_pos l.length with h0 | h0
 ·have e : l = [] := List.length_eq_zero_iff.1 h0
  subst e
  refine (Srt.set_any v [] w hv hlen).mono ?_
  rintro e w' ⟨v', h1, h2, h3⟩
  refine ⟨v', h1, h2, fun b off m c e2 hm => ?_, h3⟩
  obtain ⟨A, c', e3, -, -, -, -⟩ := h2.open_
  rw [e2] at e3
  injection e3 with _ e4 _
  have : (setOf ([] : List Nat)).length = 0 := rfl
  omega
 ·refine (Srt.set_new v l w hv h0 hlen).mono ?_
  rintro e w' ⟨⟨v', h1, h2, h3⟩, h4⟩
  exact ⟨v', h1, h2, fun b off m c e2 _ => h4 v' b off m c h1 e2, h3⟩
set_option maxRecDepth 100000 in
set_option maxHeartbeats 8000000 in
theorem pnorm_in (ha oa hb ob : Int) (vp0 vc0 : Value) (hp md pr ag ai hp1 md1 pr1 ag1 ai1 np cp nc cc : Nat) (Ap Ac : Option Addr) (p : List Piece) (cm : List Nat) (w : World)
  (CP : Hid (∀ W, Below w.heap.size w W → Calls Tryz.prog 68 #[.agg #[.int .i64 ha, .int .i64 oa, vp0, .int .u32 hp, .int .u32 md, .int .u32 pr, .int .u32 ag, .int .u32 ai, vc0]] W (Tells (.agg #[.int .i64 hb, .int .i64 ob, .slice Ap np cp, .int .u32 hp1, .int .u32 md1, .int .u32 pr1, .int .u32 ag1, .int .u32 ai1, .slice Ac nc cc]) W)))
  (CN : Hid (∀ W, Below w.heap.size w W → Calls Tryz.prog 109 #[.slice Ap np cp] W (GivesSegsF 117 (normS p) W)))
  (CS : Hid (∀ W, Below w.heap.size w W → Calls Tryz.prog 110 #[.slice Ac nc cc] W (fun e w' => ∃ v', e = .returned v' ∧ U32s w' v' (setOf cm) ∧ NewAt W.heap.size v' ∧ Below W.heap.size W w'))) :
  Calls Tryz.prog 89 #[.agg #[.int .i64 ha, .int .i64 oa, vp0, .int .u32 hp, .int .u32 md, .int .u32 pr, .int .u32 ag, .int .u32 ai, vc0]] w (fun e w' => ∃ vq vr, e = .returned (.agg #[.int .i64 hb, .int .i64 ob, vq, .int .u32 hp1, .int .u32 md1, .int .u32 pr1, .int .u32 ag1, .int .u32 ai1, vr]) ∧ OwnSegsF 117 w.heap.size w.heap.size w' vq (normS p) ∧ U32s w' vr (setOf cm) ∧ NewAt w.heap.size vr ∧ Below w.heap.size w w') := by
 have S := Go.Lib.hid (pres_new w (.int .i64 ha) (.int .i64 oa) (vp0) (.int .u32 hp) (.int .u32 md) (.int .u32 pr) (.int .u32 ag) (.int .u32 ai) (vc0))
 obtain ⟨c0, c1, c2, c3, c4, c5, c6, c7, c8⟩ := S.out.b1.cells
 have ff := S.out.b1.free
 go_enter Tryz.func89, Tryz.ntmps89
 go_upto_region 1 with fail
 go_cut [] from 3 (fun wx => Hid (PresSt w (.int .i64 hb) (.int .i64 ob) (.slice Ap np cp) (.int .u32 hp1) (.int .u32 md1) (.int .u32 pr1) (.int .u32 ag1) (.int .u32 ai1) (.slice Ac nc cc) wx))
 case first =>
  go_wp2_with (go_at_call 68; (refine (CP.out _ S.out.low).mono ?_; rintro e x ⟨rfl, hx⟩; replace S := Go.Lib.hid (S.out.below hx); clear ff c0 c1 c2 c3 c4 c5 c6 c7 c8 hx; obtain ⟨c0, c1, c2, c3, c4, c5, c6, c7, c8⟩ := S.out.b1.cells; have ff := S.out.b1.free))
  go_meet
  exact Go.Lib.hid (((((((((S.out.set0 (.int .i64 hb)).set1 (.int .i64 ob)).set2 (.slice Ap np cp)).set3 (.int .u32 hp1)).set4 (.int .u32 md1)).set5 (.int .u32 pr1)).set6 (.int .u32 ag1)).set7 (.int .u32 ai1)).set8 (.slice Ac nc cc))
 case rest =>
 clear S c0 c1 c2 c3 c4 c5 c6 c7 c8 ff
 have S := hcut
 clear hcut
 obtain ⟨c0, c1, c2, c3, c4, c5, c6, c7, c8⟩ := S.out.b1.cells
 have ff := S.out.b1.free
 go_upto_region 3 with (go_at_call 109; (refine (CN.out _ S.out.low).mono ?_; rintro e y ⟨vq, rfl, hq, hy⟩; obtain ⟨Aq, cq, rfl⟩ := hq.form; generalize (normS p).length = nq at hq; have HN := Go.Lib.hid (show w.heap.size + 1 + 1 ≤ _ from S.out.b2.lt); have HQ := Go.Lib.hid (hq.lower HN.out HN.out); clear HN; replace S := Go.Lib.hid (S.out.below hy); clear hq ff c0 c1 c2 c3 c4 c5 c6 c7 c8; have ff := S.out.b1.free; obtain ⟨-, -, c2, -, -, -, -, -, -⟩ := S.out.b1.cells; replace S := Go.Lib.hid (S.out.set2 (.slice Aq nq cq)); obtain ⟨-, -, -, -, -, -, -, -, c8⟩ := S.out.b1.cells; clear hy))
 go_upto_region 4 with (go_at_call 110; (refine (CS.out _ S.out.low).mono ?_; rintro e z ⟨vr, rfl, hr, hn, hz⟩; obtain ⟨Ar, cr, rfl, -, -, -, -⟩ := hr.open_; generalize (setOf cm).length = nr at hr hn; have HN := Go.Lib.hid (show w.heap.size + 1 + 1 ≤ _ from S.out.b2.lt); have HR := Go.Lib.hid (And.intro hr (hn.lower HN.out)); have HQ2 := Go.Lib.hid ((segs_off HQ.out (off_set _ (by omega)) (by simp)).keep hz); replace S := Go.Lib.hid (S.out.below hz); clear hr hn HN HQ ff c2 c8; have ff := S.out.b1.free; obtain ⟨-, -, -, -, -, -, -, -, k8⟩ := S.out.b1.cells; replace S := Go.Lib.hid (S.out.set8 (.slice Ar nr cr)); obtain ⟨c0, c1, c2, c3, c4, c5, c6, c7, c8⟩ := S.out.b1.cells; obtain ⟨g0, g1, g2, g3, g4, g5, g6, g7, g8⟩ := S.out.b2.cells; have fg := S.out.b2.free; clear hz))
 have B9 := (((((((((S.out.b2.set0 (.int .i64 hb)).set1 (.int .i64 ob)).set2 (.slice Aq nq cq)).set3 (.int .u32 hp1)).set4 (.int .u32 md1)).set5 (.int .u32 pr1)).set6 (.int .u32 ag1)).set7 (.int .u32 ai1)).set8 (.slice Ar nr cr))
 obtain ⟨r0, r1, r2, r3, r4, r5, r6, r7, r8⟩ := B9.cells
 go_wp2
 (try simp only [Exit.inBlock, Exit.then])
 refine bodyPost_ret (v := .agg #[.int .i64 hb, .int .i64 ob, .slice Aq nq cq, .int .u32 hp1, .int .u32 md1, .int .u32 pr1, .int .u32 ag1, .int .u32 ai1, .slice Ar nr cr]) (by simp [results, Tryz.results89, go_sem, r0, r1, r2, r3, r4, r5, r6, r7, r8]) rfl ?_
 have hlo := nine_low S.out.low (w.heap.size + 1) (by omega) (.int .i64 hb) (.int .i64 ob) (.slice Aq nq cq) (.int .u32 hp1) (.int .u32 md1) (.int .u32 pr1) (.int .u32 ag1) (.int .u32 ai1) (.slice Ar nr cr)
 have hk := nine_off (z.setCell ⟨w.heap.size, 8, none⟩ (.slice Ar nr cr)) (w.heap.size + 1) (.int .i64 hb) (.int .i64 ob) (.slice Aq nq cq) (.int .u32 hp1) (.int .u32 md1) (.int .u32 pr1) (.int .u32 ag1) (.int .u32 ai1) (.slice Ar nr cr)
 have hk1 : ∀ k, w.heap.size + 1 + 1 ≤ k → _ := fun k h => (hk.1 k (by omega)).trans (off_set (n := w.heap.size + 1 + 1) (.slice Ar nr cr) (by omega) k h)
 have hsz : z.heap.size ≤ _ := Nat.le_trans (by simp) hk.2
 refine ⟨_, _, rfl, ?_, ?_, ?_, hlo⟩
 ·exact OwnSegsF.lower (segs_off HQ2.out hk1 hsz) (by omega) (by omega)
 ·exact u32_off HR.out.1 HR.out.2 hk1 hsz
 ·exact HR.out.2.lower (by omega)
theorem pnormA_any (v : Value) (a : At) (w : World) (hv : Attrs w v a) (hbk : bulk a.path ≤ 40000) (hfit : FitS 4999 a.path) (hcl : a.comms.length < 5000) :
  Calls Tryz.prog 89 #[v] w (fun e w' => ∃ v', e = .returned v' ∧ AtF w.heap.size w' v' (normA a) ∧ Below w.heap.size w w') := by
 obtain ⟨v', hp, hc⟩ := present_exact v a w hv
 have hokn := normA_ok hv.1
 obtain ⟨_, vp0, vc0, rfl, -, -⟩ := hv
 have e1 : normS (presA a).path = (normA a).path := by unfold presA normA; dsimp only; split <;> rfl
 have e2 : setOf (presA a).comms = (normA a).comms := by unfold presA normA; dsimp only; split <;> rfl
 have b1 : bulk (presA a).path ≤ 40000 := by unfold presA; dsimp only; split; exact hbk; exact Nat.zero_le _
 have b2 : FitS 4999 (presA a).path := by unfold presA; dsimp only; split; exact hfit; exact fun s hs => by cases hs
 have b3 : (presA a).comms.length < 5000 := by unfold presA; dsimp only; split; exact hcl; exact Nat.zero_lt_succ _
 obtain ⟨_, vp, vc, rfl, hP, hC⟩ := hp
 obtain ⟨Ap, cp, rfl, -, -⟩ := hP.form
 obtain ⟨Ac, cc, rfl, -, -, -, -⟩ := hC.open_
 have CN := Go.Lib.hid (fun W (h : Below w.heap.size w W) => Seg.pnorm_any _ (presA a).path W (hP.keep h) b1 b2)
 have CS := Go.Lib.hid (fun W (h : Below w.heap.size w W) => set_fresh _ (presA a).comms W (hC.keep h) b3)
 refine (pnorm_in a.has a.origin (presA a).has (presA a).origin vp0 vc0 a.hop a.med a.pref a.aas a.aid (presA a).hop (presA a).med (presA a).pref (presA a).aas (presA a).aid (presA a).path.length cp (presA a).comms.length cc Ap Ac (presA a).path (presA a).comms w (Go.Lib.hid hc) CN CS).mono ?_
 rintro e w' ⟨vq, vr, rfl, h1, h2, h3, h4⟩
 refine ⟨_, rfl, ⟨hokn, vq, vr, rfl, ?_, ?_, h3⟩, h4⟩
 ·rw [← e1]; exact h1
 ·rw [← e2]; exact h2
end Go.Proofs.YtlhdjdnflpilbaaGreatDoor.Att
namespace Go.Proofs.YtlhdjdnflpilbaaGreatDoor.Upd
open Go.RowKit Mem Segm Oct Att Seg PR
theorem newAt_row {W : World} {n m base : Nat} {t : TypeId} {v : Value} {xs : List Value} (h : W.ownsRow base t 1 v m xs) (hn : n ≤ base) : NewAt n v := fun b off k c e h0 => by
 have := (h.lt b (by rw [e]; rfl)).1
 omega
def UpdF (n : Nat) (W : World) (v : Value) (u : Up) : Prop := ∃ Ag cg vp vc Ah ch, v = uV u.at_ (.slice Ag u.gone.length cg) vp vc (.slice Ah u.here.length ch) ∧ W.ownsRow n 63 2 (.slice Ag u.gone.length cg) u.gone.length (pcells u.gone) ∧ Oks u.gone ∧
 (u.at_.ok ∧ OwnSegsF 117 n n W vp u.at_.path ∧ U32s W vc u.at_.comms ∧ NewAt n vc) ∧ W.ownsRow n 63 2 (.slice Ah u.here.length ch) u.here.length (pcells u.here) ∧ Oks u.here
section
variable {n m : Nat} {W W' : World} {v : Value} {u : Up}
theorem UpdF.upds (h : UpdF n W v u) : Upds W v u := by
 obtain ⟨Ag, cg, vp, vc, Ah, ch, h1, h2, h3, ⟨h4, h5, h6, -⟩, h7, h8⟩ := h
 exact ⟨_, vp, vc, _, h1, Pfxs.of_own h2 h3, ⟨h4, vp, vc, rfl, h5.segs, h6⟩, Pfxs.of_own h7 h8⟩
theorem UpdF.off (h : UpdF n W v u) (hk : ∀ k, n ≤ k → W'.heap[k]? = W.heap[k]?) (hs : W.heap.size ≤ W'.heap.size) : UpdF n W' v u := by
 obtain ⟨Ag, cg, vp, vc, Ah, ch, h1, h2, h3, ⟨h4, h5, h6, h9⟩, h7, h8⟩ := h
 exact ⟨Ag, cg, vp, vc, Ah, ch, h1, own_off h2 hk, h3, ⟨h4, segs_off h5 hk hs, u32_off h6 h9 hk hs, h9⟩, own_off h7 hk, h8⟩
theorem UpdF.keep (h : UpdF n W v u) (hb : Below W.heap.size W W') : UpdF n W' v u := by
 obtain ⟨Ag, cg, vp, vc, Ah, ch, h1, h2, h3, ⟨h4, h5, h6, h9⟩, h7, h8⟩ := h
 exact ⟨Ag, cg, vp, vc, Ah, ch, h1, own_keep h2 hb, h3, ⟨h4, h5.keep hb, h6.keep hb, h9⟩, own_keep h7 hb, h8⟩
theorem UpdF.lower (h : UpdF n W v u) (hm : m ≤ n) : UpdF m W v u := by
 obtain ⟨Ag, cg, vp, vc, Ah, ch, h1, h2, h3, ⟨h4, h5, h6, h9⟩, h7, h8⟩ := h
 exact ⟨Ag, cg, vp, vc, Ah, ch, h1, own_base h2 hm, h3, ⟨h4, h5.lower hm hm, h6, h9.lower hm⟩, own_base h7 hm, h8⟩
theorem updF_zero (n : Nat) (W : World) : UpdF n W (uV zeroA (.slice none 0 0) (.slice none 0 0) (.slice none 0 0) (.slice none 0 0)) zeroU :=
 ⟨none, 0, _, _, none, 0, rfl, World.ownsRow_nil _ _ _ _, oks_nil, ⟨zeroA_ok, nil_segsF _ _ _, U32s.nil W, NewAt.nil _⟩, World.ownsRow_nil _ _ _ _, oks_nil⟩
end
def GivesU (u : Up) (w : World) (e : Ending) (w' : World) : Prop := ∃ v, e = .returned v ∧ UpdF w.heap.size w' v u ∧ Below w.heap.size w w'
def elev (W : World) (B : Nat) (a : At) (vg vp vc vh : Value) : World := ((((((((((W.setCell ⟨B, 0, none⟩ vg).setCell ⟨B, 1, none⟩ (.int .i64 a.has)).setCell ⟨B, 2, none⟩ (.int .i64 a.origin)).setCell ⟨B, 3, none⟩ vp).setCell ⟨B, 4, none⟩ (.int .u32 a.hop)).setCell ⟨B, 5, none⟩ (.int .u32 a.med)).setCell ⟨B, 6, none⟩ (.int .u32 a.pref)).setCell ⟨B, 7, none⟩ (.int .u32 a.aas)).setCell ⟨B, 8, none⟩ (.int .u32 a.aid)).setCell ⟨B, 9, none⟩ vc).setCell ⟨B, 10, none⟩ vh
structure Box11 (W : World) (B : Nat) (t : TypeId) (x0 x1 x2 x3 x4 x5 x6 x7 x8 x9 x10 : Value) : Prop where
 blk : W.heap[B]? = some (.cells #[x0, x1, x2, x3, x4, x5, x6, x7, x8, x9, x10] t (0, 0))
section
variable {W : World} {B : Nat} {t : TypeId} {x0 x1 x2 x3 x4 x5 x6 x7 x8 x9 x10 : Value}
theorem Box11.set0 (h : Box11 W B t x0 x1 x2 x3 x4 x5 x6 x7 x8 x9 x10) (v : Value) : Box11 (W.setCell ⟨B, 0, none⟩ v) B t v x1 x2 x3 x4 x5 x6 x7 x8 x9 x10 := ⟨by rw [Go.Joins.block_setCell h.blk]; rfl⟩
theorem Box11.set1 (h : Box11 W B t x0 x1 x2 x3 x4 x5 x6 x7 x8 x9 x10) (v : Value) : Box11 (W.setCell ⟨B, 1, none⟩ v) B t x0 v x2 x3 x4 x5 x6 x7 x8 x9 x10 := ⟨by rw [Go.Joins.block_setCell h.blk]; rfl⟩
theorem Box11.set2 (h : Box11 W B t x0 x1 x2 x3 x4 x5 x6 x7 x8 x9 x10) (v : Value) : Box11 (W.setCell ⟨B, 2, none⟩ v) B t x0 x1 v x3 x4 x5 x6 x7 x8 x9 x10 := ⟨by rw [Go.Joins.block_setCell h.blk]; rfl⟩
theorem Box11.set3 (h : Box11 W B t x0 x1 x2 x3 x4 x5 x6 x7 x8 x9 x10) (v : Value) : Box11 (W.setCell ⟨B, 3, none⟩ v) B t x0 x1 x2 v x4 x5 x6 x7 x8 x9 x10 := ⟨by rw [Go.Joins.block_setCell h.blk]; rfl⟩
theorem Box11.set4 (h : Box11 W B t x0 x1 x2 x3 x4 x5 x6 x7 x8 x9 x10) (v : Value) : Box11 (W.setCell ⟨B, 4, none⟩ v) B t x0 x1 x2 x3 v x5 x6 x7 x8 x9 x10 := ⟨by rw [Go.Joins.block_setCell h.blk]; rfl⟩
theorem Box11.set5 (h : Box11 W B t x0 x1 x2 x3 x4 x5 x6 x7 x8 x9 x10) (v : Value) : Box11 (W.setCell ⟨B, 5, none⟩ v) B t x0 x1 x2 x3 x4 v x6 x7 x8 x9 x10 := ⟨by rw [Go.Joins.block_setCell h.blk]; rfl⟩
theorem Box11.set6 (h : Box11 W B t x0 x1 x2 x3 x4 x5 x6 x7 x8 x9 x10) (v : Value) : Box11 (W.setCell ⟨B, 6, none⟩ v) B t x0 x1 x2 x3 x4 x5 v x7 x8 x9 x10 := ⟨by rw [Go.Joins.block_setCell h.blk]; rfl⟩
theorem Box11.set7 (h : Box11 W B t x0 x1 x2 x3 x4 x5 x6 x7 x8 x9 x10) (v : Value) : Box11 (W.setCell ⟨B, 7, none⟩ v) B t x0 x1 x2 x3 x4 x5 x6 v x8 x9 x10 := ⟨by rw [Go.Joins.block_setCell h.blk]; rfl⟩
theorem Box11.set8 (h : Box11 W B t x0 x1 x2 x3 x4 x5 x6 x7 x8 x9 x10) (v : Value) : Box11 (W.setCell ⟨B, 8, none⟩ v) B t x0 x1 x2 x3 x4 x5 x6 x7 v x9 x10 := ⟨by rw [Go.Joins.block_setCell h.blk]; rfl⟩
theorem Box11.set9 (h : Box11 W B t x0 x1 x2 x3 x4 x5 x6 x7 x8 x9 x10) (v : Value) : Box11 (W.setCell ⟨B, 9, none⟩ v) B t x0 x1 x2 x3 x4 x5 x6 x7 x8 v x10 := ⟨by rw [Go.Joins.block_setCell h.blk]; rfl⟩
theorem Box11.set10 (h : Box11 W B t x0 x1 x2 x3 x4 x5 x6 x7 x8 x9 x10) (v : Value) : Box11 (W.setCell ⟨B, 10, none⟩ v) B t x0 x1 x2 x3 x4 x5 x6 x7 x8 x9 v := ⟨by rw [Go.Joins.block_setCell h.blk]; rfl⟩
end
def Off (B : Nat) (W W' : World) : Prop := (∀ k, k ≠ B → W'.heap[k]? = W.heap[k]?) ∧ W.heap.size ≤ W'.heap.size
theorem Off.refl (B : Nat) (W : World) : Off B W W := ⟨fun _ _ => rfl, Nat.le_refl _⟩
theorem Off.set {B : Nat} {W W' : World} (h : Off B W W') (i : Nat) (u : Value) : Off B W (W'.setCell ⟨B, i, none⟩ u) :=
 ⟨fun k hk => (Go.RowKit.Below.heap_setCell _ _ _ _ (show k ≠ (⟨B, i, none⟩ : Addr).block from hk)).trans (h.1 k hk), by have := h.2; simpa using this⟩
section
variable {W w : World} {B n : Nat} {t : TypeId} {a b : At} {vg vp vc vh yg yp yc yh : Value}
theorem elev_off (W : World) (B : Nat) (a : At) (vg vp vc vh : Value) : Off B W (elev W B a vg vp vc vh) :=
 (((((((((((Off.refl B W).set 0 vg).set 1 (.int .i64 a.has)).set 2 (.int .i64 a.origin)).set 3 vp).set 4 (.int .u32 a.hop)).set 5 (.int .u32 a.med)).set 6 (.int .u32 a.pref)).set 7 (.int .u32 a.aas)).set 8 (.int .u32 a.aid)).set 9 vc).set 10 vh
theorem elev_low (h : Below n w W) (hB : n ≤ B) (a : At) (vg vp vc vh : Value) : Below n w (elev W B a vg vp vc vh) :=
 (((((((((((h).setCell (p := ⟨B, 0, none⟩) hB vg).setCell (p := ⟨B, 1, none⟩) hB (.int .i64 a.has)).setCell (p := ⟨B, 2, none⟩) hB (.int .i64 a.origin)).setCell (p := ⟨B, 3, none⟩) hB vp).setCell (p := ⟨B, 4, none⟩) hB (.int .u32 a.hop)).setCell (p := ⟨B, 5, none⟩) hB (.int .u32 a.med)).setCell (p := ⟨B, 6, none⟩) hB (.int .u32 a.pref)).setCell (p := ⟨B, 7, none⟩) hB (.int .u32 a.aas)).setCell (p := ⟨B, 8, none⟩) hB (.int .u32 a.aid)).setCell (p := ⟨B, 9, none⟩) hB vc).setCell (p := ⟨B, 10, none⟩) hB vh
theorem BoxU.laid (h : BoxU W B t b yg yp yc yh) (a : At) (vg vp vc vh : Value) : BoxU (elev W B a vg vp vc vh) B t a vg vp vc vh :=
 ⟨(((((((((((((⟨h.blk⟩ : Box11 W B t yg (.int .i64 b.has) (.int .i64 b.origin) yp (.int .u32 b.hop) (.int .u32 b.med) (.int .u32 b.pref) (.int .u32 b.aas) (.int .u32 b.aid) yc yh)).set0 vg).set1 (.int .i64 a.has)).set2 (.int .i64 a.origin)).set3 vp).set4 (.int .u32 a.hop)).set5 (.int .u32 a.med)).set6 (.int .u32 a.pref)).set7 (.int .u32 a.aas)).set8 (.int .u32 a.aid)).set9 vc).set10 vh).blk⟩
end
end Go.Proofs.YtlhdjdnflpilbaaGreatDoor.Upd
namespace Go.Proofs.YtlhdjdnflpilbaaGreatDoor.Att
open Go.RowKit Mem Segm Oct Nums
def leftN (l : List Nat) (bad : Bool) : Nat → List Nat × Bool
 | 0 => (l, bad)
 | k + 1 => (rest (leftN l bad k).1 (leftN l bad k).2 4, fails (leftN l bad k).1 (leftN l bad k).2 4)
def tookN (l : List Nat) (bad : Bool) : Nat → List Nat
 | 0 => []
 | k + 1 => tookN l bad k ++ [val (got (leftN l bad k).1 (leftN l bad k).2 4)]
theorem tookN_len (l : List Nat) (bad : Bool) : ∀ k, (tookN l bad k).length = k
 | 0 => rfl
 | k + 1 => by unfold tookN; rw [List.length_append, tookN_len l bad k]; rfl
theorem leftN_small {l : List Nat} {bad : Bool} (h : Small l) : ∀ k, Small (leftN l bad k).1
 | 0 => h
 | k + 1 => by
  unfold leftN rest
  split
  ·exact small_nil
  ·exact (leftN_small h k).drop _
theorem took_good {l : List Nat} : ∀ k : Nat, 4 * k ≤ l.length → leftN l false k = (l.drop (4 * k), false) ∧ tookN l false k = quadsN l k
 | 0, _ => by simp [leftN, tookN, quadsN]
 | k + 1, h => by
  obtain ⟨h1, h2⟩ := took_good (l := l) k (by omega)
  have hf : fails (l.drop (4 * k)) false 4 = false := by
   simp only [fails, Bool.false_or, Bool.or_eq_false_iff, decide_eq_false_iff_not, List.length_drop]
   omega
  unfold leftN tookN
  rw [h1, h2, quadsN_succ]
  refine ⟨?_, ?_⟩
  ·show (rest _ false 4, fails _ false 4) = _
   rw [hf]
   unfold rest
   rw [hf, if_neg (by decide), List.drop_drop]
   congr 2
  ·show quadsN l k ++ [val (got _ false 4)] = _
   unfold got
   rw [hf, if_neg (by decide)]
   rfl
theorem left_bad {l : List Nat} : ∀ k : Nat, (leftN l true k).2 = true
 | 0 => rfl
 | k + 1 => by
  unfold leftN
  show fails _ _ 4 = true
  rw [left_bad (l := l) k]
  simp [fails]
theorem took_bad {l : List Nat} : ∀ k : Nat, l.length < 4 * k → (leftN l false k).2 = true
 | 0, h => by omega
 | k + 1, h => by
  by_cases hk : 4 * k ≤ l.length
  ·obtain ⟨h1, h2⟩ := took_good (l := l) k hk
   unfold leftN
   rw [h1]
   show fails _ false 4 = true
   simp only [fails, Bool.false_or, Bool.or_eq_true, decide_eq_true_eq, List.length_drop]
   omega
  ·have := took_bad (l := l) k (by omega)
   unfold leftN
   show fails _ _ 4 = true
   rw [this]
   simp [fails]
def TakeN (base n : Nat) (v : Value) (F : Nat → Prop) (l : List Nat) (bad : Bool) (k : Nat) (w : World) (e : Ending) (w' : World) : Prop :=
 ∃ A c, e = .returned (.slice A k c) ∧ U32s w' (.slice A k c) (tookN l bad k) ∧ NewAt w.heap.size (.slice A k c) ∧ R w' base n v (leftN l bad k).1 (leftN l bad k).2 F ∧ Only F w w'
structure TkSt (base n : Nat) (v : Value) (F : Nat → Prop) (w0 : World) (l : List Nat) (bad : Bool) (u : Value) (m : Nat) (xs : List Nat) (W : World) : Prop where
 rd : R W base n v l bad F
 own : W.ownsRow w0.heap.size 24 1 u m (xs.map fun n : Nat => Value.int .u32 n)
 on : Only F w0 W
section
variable {base n : Nat} {v u : Value} {F : Nat → Prop} {w0 W W2 : World} {l l2 : List Nat} {bad bad2 : Bool} {m : Nat} {xs : List Nat}
theorem TkSt.read (h : TkSt base n v F w0 l bad u m xs W) (hn : n ≤ w0.heap.size) (hr : R W2 base n v l2 bad2 F) (ho : Only F W W2) : TkSt base n v F w0 l2 bad2 u m xs W2 := by
 refine ⟨hr, own_same h.own fun g hg => ho.block g (h.own.lt g hg).2 (fun hf => ?_), h.on.trans ho⟩
 have h1 := (h.own.lt g hg).1
 have h2 := (hr.low g hf).2
 omega
theorem TkSt.below (h : TkSt base n v F w0 l bad u m xs W) (hb : Below W.heap.size W W2) : TkSt base n v F w0 l bad u m xs W2 :=
 ⟨h.rd.below hb, own_keep h.own hb, h.on.trans (Only.of hb)⟩
end
set_option maxRecDepth 100000 in
set_option maxHeartbeats 4000000 in
theorem take_n (v : Value) (base n : Nat) (l : List Nat) (bad : Bool) (F : Nat → Prop) (k : Nat) (w : World) (hs : Small l) (hR : R w base n v l bad F) (hn : n ≤ w.heap.size) (hk : k ≤ 100000) :
  Calls Tryz.prog 118 #[v, .int .i64 k] w (TakeN base n v F l bad k w) := by
 obtain ⟨ie, E⟩ := elem32
 have HS := Go.Lib.hid hs
 have HN := Go.Lib.hid hn
 have ST0 := Go.Lib.hid (show TkSt base n v F w l bad (.slice none 0 0) 0 [] w from ⟨hR, World.ownsRow_nil _ _ _ _, Only.refl _ _⟩)
 have CU := Go.Lib.hid (fun (l : List Nat) (bad : Bool) (W : World) (hs : Small l) (h : R W base n v l bad F) => u32_any v base n l bad F W hs h)
 clear hs hR hn
 go_enter Tryz.func118, Tryz.ntmps118
 go_wp2
 go_loopw [5, 7] (fun v5 v7 wx => ∃ (j : Nat) (A : Option Addr) (c : Nat), j ≤ k ∧ v7 = .int .i64 j ∧ v5 = .slice A j c ∧ Hid (TkSt base n v F w (leftN l bad j).1 (leftN l bad j).2 (.slice A j c) j (tookN l bad j) wx)) (fun _ v7 _ => k - (intOf v7).toNat)
 case atStart => exact ⟨0, none, 0, Nat.zero_le _, rfl, rfl, ST0⟩
 case round =>
  obtain ⟨j, A, c, hj, rfl, rfl, ST⟩ := hrel
  by_cases hlt : j < k
  ·have z1 : (j : Int) < (k : Int) := by omega
   have CUJ := Go.Lib.hid (CU.out _ _ _ (leftN_small HS.out j) ST.out.rd)
   have HV := Go.Lib.hid (valg_lt (l := (leftN l bad j).1) (bad := (leftN l bad j).2) (k := 4) (leftN_small HS.out j) (by decide))
   have HL := Go.Lib.hid (show leftN l bad (j + 1) = (rest (leftN l bad j).1 (leftN l bad j).2 4, fails (leftN l bad j).1 (leftN l bad j).2 4) from rfl)
   have HT := Go.Lib.hid (show tookN l bad (j + 1) = tookN l bad j ++ [val (got (leftN l bad j).1 (leftN l bad j).2 4)] from rfl)
   rw [show ((4 : Nat) : Int) = 4 from rfl] at HV
   generalize val (got (leftN l bad j).1 (leftN l bad j).2 4) = y at CUJ HV HT
   go_wp2_with (first
    | (go_at_call 117; (refine (CUJ.out).mono ?_; rintro e w6 ⟨rfl, hR6, ho6⟩; have S6 := Go.Lib.hid (ST.out.read HN.out hR6 ho6); have S7 := Go.Lib.hid (S6.out.below ((Below.refl _ w6).alloc (Nat.le_refl _) (.cells #[.int .u32 y] 24))); have R7 := Go.Lib.hid (Row.one w6 (.int .u32 (y : Nat)) 24); have L7 := Go.Lib.hid (show w.heap.size ≤ (w6.alloc (.cells #[.int .u32 (y : Nat)] 24)).heap.size from S7.out.on.size); clear hR6 ho6))
    | (at_builtin; (refine wpList_append_row rfl (.tmp 9) (.tmp 12) rfl E w.heap.size _ j ((tookN l bad j).map fun n : Nat => Value.int .u32 n) rfl S7.out.own _ 1 [.int .u32 (y : Nat)] rfl R7.out (by intro u hu; rw [List.mem_singleton.1 hu]; rfl) (by unfold maxLen; omega) (by omega) L7.out (j + 1) rfl ?_; intro A4 c4 w8 hown4 hg4 hat4 hb4; have S8 := Go.Lib.hid (And.intro hown4 hb4); clear hown4 hg4 hat4 hb4)))
   go_roundw
   case rel =>
    refine ⟨j + 1, A4, c4, hlt, by go_num, by first | rfl | go_num, Go.Lib.hid ?_⟩
    rw [HL.out, HT.out]
    exact ⟨S7.out.rd.keep (fun q hq => S8.out.2.block q (Nat.lt_of_lt_of_le hq HN.out)) S8.out.2.size, by rw [List.map_append]; exact S8.out.1, ⟨S8.out.2.os.trans S7.out.on.os, S8.out.2.tape.trans S7.out.on.tape, S8.out.2.output.trans S7.out.on.output, Nat.le_trans S7.out.on.size S8.out.2.size, fun q hq hf => (S8.out.2.block q hq).trans (S7.out.on.block q hq hf)⟩⟩
   case measure => simp [intOf]; omega
  ·obtain rfl : j = k := by omega
   have z1 : decide ((j : Int) < (j : Int)) = false := by simp
   go_wp2
   go_ret
   refine ⟨A, c, rfl, U32s.of_own (by have h := ST.out.own; rw [tookN_len]; exact h) ?_, ?_, ST.out.rd, ST.out.on⟩
   ·intro y hy
    have : ∀ j, ∀ y ∈ tookN l bad j, y < 4294967296 := fun j => by
     induction j with
     | zero => intro y hy; cases hy
     | succ j ih =>
      intro y hy
      unfold tookN at hy
      rcases List.mem_append.1 hy with h | h
      ·exact ih y h
      ·rw [List.mem_singleton.1 h]; exact valg_lt (k := 4) (leftN_small HS.out j) (by decide)
    exact this _ y hy
   ·intro b off m c' e hm
    injection e with e1 e2 e3
    subst e1
    exact (ST.out.own.lt b rfl).1
end Go.Proofs.YtlhdjdnflpilbaaGreatDoor.Att
namespace Go.Proofs.YtlhdjdnflpilbaaGreatDoor.Att
open Go.RowKit Mem Segm Oct
def nxF (l : List Nat) : Nat := (Rd.mk l false).num 1
def nxK (l : List Nat) : Nat := ((Rd.mk l false).go 1).num 1
def nxW (l : List Nat) : Int := if nxF l / 16 % 2 = 1 then 2 else 1
def nxN (l : List Nat) : Nat := (((Rd.mk l false).go 1).go 1).num (nxW l)
def nx3 (l : List Nat) : Rd := (((Rd.mk l false).go 1).go 1).go (nxW l)
def nxV (l : List Nat) : List Nat := got (nx3 l).l (nx3 l).b (nxN l : Nat)
def nxR (l : List Nat) : Rd := (nx3 l).go (nxN l : Nat)
structure NxSt (base n : Nat) (v : Value) (F : Nat → Prop) (w0 : World) (x0 x1 x2 : Value) (x : Rd) (W : World) : Prop where
 b2 : Box3 W w0.heap.size 90 (.int .i64 0) (.int .i64 0) (.slice none 0 0)
 b3 : Box3 W (w0.heap.size + 1) 90 x0 x1 x2
 rd : R W base n v x.l x.b F
 on : Only F w0 W
section
variable {base n : Nat} {v x0 x1 x2 : Value} {F : Nat → Prop} {w0 W W2 : World} {x y : Rd}
theorem NxSt.read (h : NxSt base n v F w0 x0 x1 x2 x W) (hn : n ≤ w0.heap.size) (hr : R W2 base n v y.l y.b F) (ho : Only F W W2) : NxSt base n v F w0 x0 x1 x2 y W2 := by
 have hF : ∀ q, F q → q < n := fun q hq => (h.rd.low q hq).2
 exact ⟨⟨(ho.block _ h.b2.lt (fun hf => by have := hF _ hf; omega)).trans h.b2.blk⟩, ⟨(ho.block _ h.b3.lt (fun hf => by have := hF _ hf; omega)).trans h.b3.blk⟩, hr, h.on.trans ho⟩
theorem NxSt.farset (h : NxSt base n v F w0 x0 x1 x2 x W) (hn : n ≤ w0.heap.size) (i : Nat) (u : Value) : R (W.setCell ⟨w0.heap.size + 1, i, none⟩ u) base n v x.l x.b F ∧ Only F w0 (W.setCell ⟨w0.heap.size + 1, i, none⟩ u) := by
 refine ⟨h.rd.keep (fun k hk => Go.RowKit.Below.heap_setCell _ _ _ _ (by show k ≠ w0.heap.size + 1; omega)) (by simp), ⟨h.on.os, h.on.tape, h.on.output, by have := h.on.size; simp; omega, fun k hk hf => (Go.RowKit.Below.heap_setCell _ _ _ _ (by show k ≠ w0.heap.size + 1; omega)).trans (h.on.block k hk hf)⟩⟩
theorem NxSt.set0 (h : NxSt base n v F w0 x0 x1 x2 x W) (hn : n ≤ w0.heap.size) (u : Value) : NxSt base n v F w0 u x1 x2 x (W.setCell ⟨w0.heap.size + 1, 0, none⟩ u) :=
 ⟨h.b2.far (by omega) u, h.b3.set0 u, (h.farset hn 0 u).1, (h.farset hn 0 u).2⟩
theorem NxSt.set1 (h : NxSt base n v F w0 x0 x1 x2 x W) (hn : n ≤ w0.heap.size) (u : Value) : NxSt base n v F w0 x0 u x2 x (W.setCell ⟨w0.heap.size + 1, 1, none⟩ u) :=
 ⟨h.b2.far (by omega) u, h.b3.set1 u, (h.farset hn 1 u).1, (h.farset hn 1 u).2⟩
theorem NxSt.set2 (h : NxSt base n v F w0 x0 x1 x2 x W) (hn : n ≤ w0.heap.size) (u : Value) : NxSt base n v F w0 x0 x1 u x (W.setCell ⟨w0.heap.size + 1, 2, none⟩ u) :=
 ⟨h.b2.far (by omega) u, h.b3.set2 u, (h.farset hn 2 u).1, (h.farset hn 2 u).2⟩
end
theorem nx_start {base n : Nat} {v : Value} {F : Nat → Prop} {w : World} {l : List Nat} (hR : R w base n v l false F) : NxSt base n v F w (.int .i64 0) (.int .i64 0) (.slice none 0 0) ⟨l, false⟩ ((w.alloc (.cells #[.int .i64 0, .int .i64 0, .slice none 0 0] 90)).alloc (.cells #[.int .i64 0, .int .i64 0, .slice none 0 0] 90)) := by
 have h1 := Box3.new w 90 (.int .i64 0) (.int .i64 0) (.slice none 0 0)
 have b1 : Below w.heap.size w (w.alloc (.cells #[.int .i64 0, .int .i64 0, .slice none 0 0] 90)) := (Below.refl _ w).alloc (Nat.le_refl _) _
 have e1 : (w.alloc (.cells #[.int .i64 0, .int .i64 0, .slice none 0 0] 90)).heap.size = w.heap.size + 1 := by simp
 have h2 := Box3.new (w.alloc (.cells #[.int .i64 0, .int .i64 0, .slice none 0 0] 90)) 90 (.int .i64 0) (.int .i64 0) (.slice none 0 0)
 rw [e1] at h2
 have b2 := b1.alloc b1.size (.cells #[.int .i64 0, .int .i64 0, .slice none 0 0] 90)
 exact ⟨h1.keep ((Below.refl _ _).alloc (Nat.le_refl _) _), h2, hR.below b2, Only.of b2⟩
def NextF (base n : Nat) (v : Value) (F : Nat → Prop) (l : List Nat) (w : World) (e : Ending) (w' : World) : Prop :=
 ∃ A c, e = .returned (.agg #[.int .i64 (nxF l : Nat), .int .i64 (nxK l : Nat), .slice A (nxV l).length c]) ∧ U8s w' (.slice A (nxV l).length c) (nxV l) ∧ R w' base n v (nxR l).l (nxR l).b F ∧ Only F w w'
set_option maxRecDepth 100000 in
set_option maxHeartbeats 8000000 in
theorem next_any (v : Value) (base n : Nat) (l : List Nat) (F : Nat → Prop) (w : World) (hs : Small l) (hR : R w base n v l false F) (hn : n ≤ w.heap.size) : Calls Tryz.prog 86 #[v] w (NextF base n v F l w) := by
 have S0 := Go.Lib.hid (nx_start hR)
 have HN := Go.Lib.hid hn
 have HS1 := Go.Lib.hid (Rd.small (x := ⟨l, false⟩) hs 1)
 have HS2 := Go.Lib.hid (Rd.small HS1.out 1)
 have HS0 := Go.Lib.hid hs
 have CU := Go.Lib.hid (fun (x : Rd) (W : World) (hs : Small x.l) (h : R W base n v x.l x.b F) => show Calls Tryz.prog 82 #[v] W (fun e w' => e = .returned (.int .i64 (x.num 1 : Nat)) ∧ R w' base n v (x.go 1).l (x.go 1).b F ∧ Only F W w') from u8_any v base n x.l x.b F W hs h)
 have CV := Go.Lib.hid (fun (x : Rd) (W : World) (hs : Small x.l) (h : R W base n v x.l x.b F) => show Calls Tryz.prog 43 #[v] W (fun e w' => e = .returned (.int .i64 (x.num 2 : Nat)) ∧ R w' base n v (x.go 2).l (x.go 2).b F ∧ Only F W w') from u16_any v base n x.l x.b F W hs h)
 have CT := Go.Lib.hid (fun (x : Rd) (k : Nat) (hk : k < 65536) (W : World) (h : R W base n v x.l x.b F) => show Calls Tryz.prog 42 #[v, .int .i64 k] W (TakeF base n v F x.l x.b k W) from take_any v base n x.l x.b F k (by simp [Lit.wf, IntKind.min, IntKind.max, IntKind.signed, IntKind.bits]; omega) W h)
 have hf : nxF l < 256 := num_lt (x := ⟨l, false⟩) hs 1
 have HNF := Go.Lib.hid (show (Rd.mk l false).num 1 = nxF l from rfl)
 have HNK := Go.Lib.hid (show ((Rd.mk l false).go 1).num 1 = nxK l from rfl)
 clear hs hR hn
 by_cases hl : nxF l / 16 % 2 = 1
 ·have n16 : bits .and .i64 (nxF l : Int) 16 = 16 := by rw [byte16 _ hf, if_pos hl]
  have ew : nxW l = 2 := by unfold nxW; rw [if_pos hl]
  have hN : nxN l < 65536 := by unfold nxN; rw [ew]; exact num_lt HS2.out 2
  have HV := Go.Lib.hid (show nxV l = got (nx3 l).l (nx3 l).b (nxN l : Nat) ∧ nxR l = (nx3 l).go (nxN l : Nat) from ⟨rfl, rfl⟩)
  have H3 := Go.Lib.hid (show nx3 l = (((Rd.mk l false).go 1).go 1).go 2 ∧ (((Rd.mk l false).go 1).go 1).num 2 = nxN l from by unfold nx3 nxN; rw [ew]; exact ⟨rfl, rfl⟩)
  have CTN := Go.Lib.hid (CT.out (nx3 l) (nxN l) hN)
  unfold NextF
  generalize nxF l = f at n16 HNF ⊢
  generalize nxK l = k at HNK ⊢
  generalize nxN l = N at CTN H3 HV
  generalize nxR l = RR at HV ⊢
  generalize nxV l = VV at HV ⊢
  generalize nx3 l = R3 at CTN H3 HV
  clear hl ew hN hf
  have CU1 := Go.Lib.hid (CU.out ⟨l, false⟩)
  have CU2 := Go.Lib.hid (CU.out ((Rd.mk l false).go 1))
  have CV3 := Go.Lib.hid (CV.out (((Rd.mk l false).go 1).go 1))
  rw [HNF.out] at CU1
  rw [HNK.out] at CU2
  rw [H3.out.2, ← H3.out.1] at CV3
  clear CU CV CT HNF HNK H3
  obtain ⟨c0, c1, c2⟩ := S0.out.b3.cells
  have ff := S0.out.b3.free
  go_enter Tryz.func86, Tryz.ntmps86
  go_wp2_with (first
   | (have h := S3.out; go_at_call 42; (refine (CTN.out _ h.rd).mono ?_; rintro e z ⟨A, c, rfl, hU, hR, ho⟩; have HU := Go.Lib.hid hU; have S := Go.Lib.hid (h.read (y := R3.go N) HN.out hR ho); clear h hU hR ho S3 c0 c1 c2 ff; obtain ⟨c0, c1, c2⟩ := S.out.b3.cells; have HZ := Go.Lib.hid S.out.b3; have ff := S.out.b3.free; have S4 := Go.Lib.hid (S.out.set2 HN.out (.slice A (got R3.l R3.b N).length c)); clear S; obtain ⟨d0, d1, d2⟩ := S4.out.b3.cells; obtain ⟨e0, e1, e2⟩ := S4.out.b2.cells; have fe := S4.out.b2.free))
   | (have h := S2.out; go_at_call 43; (refine (CV3.out _ HS2.out h.rd).mono ?_; rintro e z ⟨rfl, hR, ho⟩; have S3 := Go.Lib.hid (h.read HN.out hR ho); clear h hR ho S2 c0 c1 c2 ff; obtain ⟨c0, c1, c2⟩ := S3.out.b3.cells; have ff := S3.out.b3.free))
   | (have h := S1.out; go_at_call 82; (refine (CU2.out _ HS1.out h.rd).mono ?_; rintro e z ⟨rfl, hR, ho⟩; have S := Go.Lib.hid (h.read HN.out hR ho); clear h hR ho S1 c0 c1 c2 ff; obtain ⟨c0, c1, c2⟩ := S.out.b3.cells; have ff := S.out.b3.free; have S2 := Go.Lib.hid (S.out.set1 HN.out (.int .i64 k)); clear S))
   | (have h := S0.out; go_at_call 82; (refine (CU1.out _ HS0.out h.rd).mono ?_; rintro e z ⟨rfl, hR, ho⟩; have S := Go.Lib.hid (h.read HN.out hR ho); clear h hR ho S0 c0 c1 c2 ff; obtain ⟨c0, c1, c2⟩ := S.out.b3.cells; have ff := S.out.b3.free; have S1 := Go.Lib.hid (S.out.set0 HN.out (.int .i64 f)); clear S)))
  (try simp only [Exit.inBlock, Exit.then])
  obtain ⟨r0, r1, r2⟩ := (S4.out.b2.laid (.int .i64 f) (.int .i64 k) (.slice A (got R3.l R3.b N).length c)).cells
  unfold three at r0 r1 r2
  refine bodyPost_ret (v := .agg #[.int .i64 f, .int .i64 k, .slice A (got R3.l R3.b N).length c]) (by simp [results, Tryz.results86, go_sem, r0, r1, r2]) rfl ?_
  have U1 : U8s (z.setCell ⟨w.heap.size + 1, 2, none⟩ (.slice A (got R3.l R3.b N).length c)) (.slice A (got R3.l R3.b N).length c) (got R3.l R3.b N) := u8_apart HU.out (HZ.out.no8 (no8_i _) (no8_i _) (no8_s _ _ _)) (fun q hq => Go.RowKit.Below.heap_setCell _ _ _ _ hq) (by simp)
  have ho := three_off (z.setCell ⟨w.heap.size + 1, 2, none⟩ (.slice A (got R3.l R3.b N).length c)) w.heap.size (.int .i64 f) (.int .i64 k) (.slice A (got R3.l R3.b N).length c)
  have U2 := u8_apart U1 (S4.out.b2.no8 (no8_i _) (no8_i _) (no8_s _ _ _)) ho.1 ho.2
  have hrd : R (three (z.setCell ⟨w.heap.size + 1, 2, none⟩ (.slice A (got R3.l R3.b N).length c)) w.heap.size (.int .i64 f) (.int .i64 k) (.slice A (got R3.l R3.b N).length c)) base n v (R3.go N).l (R3.go N).b F := S4.out.rd.keep (fun q hq => ho.1 q (by have := HN.out; omega)) ho.2
  refine ⟨A, c, ?_, ?_, ?_, ⟨S4.out.on.os, S4.out.on.tape, S4.out.on.output, Nat.le_trans S4.out.on.size ho.2, fun q hq hf => (ho.1 q (by omega)).trans (S4.out.on.block q hq hf)⟩⟩
  ·rw [HV.out.1]
  ·rw [HV.out.1]; exact U2
  ·rw [HV.out.2]; exact hrd
 ·have n16 : bits .and .i64 (nxF l : Int) 16 = 0 := by rw [byte16 _ hf, if_neg hl]
  have ew : nxW l = 1 := by unfold nxW; rw [if_neg hl]
  have hN : nxN l < 65536 := by unfold nxN; rw [ew]; exact Nat.lt_of_lt_of_le (num_lt HS2.out 1) (by decide)
  have HV := Go.Lib.hid (show nxV l = got (nx3 l).l (nx3 l).b (nxN l : Nat) ∧ nxR l = (nx3 l).go (nxN l : Nat) from ⟨rfl, rfl⟩)
  have H3 := Go.Lib.hid (show nx3 l = (((Rd.mk l false).go 1).go 1).go 1 ∧ (((Rd.mk l false).go 1).go 1).num 1 = nxN l from by unfold nx3 nxN; rw [ew]; exact ⟨rfl, rfl⟩)
  have CTN := Go.Lib.hid (CT.out (nx3 l) (nxN l) hN)
  unfold NextF
  generalize nxF l = f at n16 HNF ⊢
  generalize nxK l = k at HNK ⊢
  generalize nxN l = N at CTN H3 HV
  generalize nxR l = RR at HV ⊢
  generalize nxV l = VV at HV ⊢
  generalize nx3 l = R3 at CTN H3 HV
  clear hl ew hN hf
  have CU1 := Go.Lib.hid (CU.out ⟨l, false⟩)
  have CU2 := Go.Lib.hid (CU.out ((Rd.mk l false).go 1))
  have CV3 := Go.Lib.hid (CU.out (((Rd.mk l false).go 1).go 1))
  rw [HNF.out] at CU1
  rw [HNK.out] at CU2
  rw [H3.out.2, ← H3.out.1] at CV3
  clear CU CV CT HNF HNK H3
  obtain ⟨c0, c1, c2⟩ := S0.out.b3.cells
  have ff := S0.out.b3.free
  go_enter Tryz.func86, Tryz.ntmps86
  go_wp2_with (first
   | (have h := S3.out; go_at_call 42; (refine (CTN.out _ h.rd).mono ?_; rintro e z ⟨A, c, rfl, hU, hR, ho⟩; have HU := Go.Lib.hid hU; have S := Go.Lib.hid (h.read (y := R3.go N) HN.out hR ho); clear h hU hR ho S3 c0 c1 c2 ff; obtain ⟨c0, c1, c2⟩ := S.out.b3.cells; have HZ := Go.Lib.hid S.out.b3; have ff := S.out.b3.free; have S4 := Go.Lib.hid (S.out.set2 HN.out (.slice A (got R3.l R3.b N).length c)); clear S; obtain ⟨d0, d1, d2⟩ := S4.out.b3.cells; obtain ⟨e0, e1, e2⟩ := S4.out.b2.cells; have fe := S4.out.b2.free))
   | (have h := S2.out; go_at_call 82; (refine (CV3.out _ HS2.out h.rd).mono ?_; rintro e z ⟨rfl, hR, ho⟩; have S3 := Go.Lib.hid (h.read HN.out hR ho); clear h hR ho S2 c0 c1 c2 ff; obtain ⟨c0, c1, c2⟩ := S3.out.b3.cells; have ff := S3.out.b3.free))
   | (have h := S1.out; go_at_call 82; (refine (CU2.out _ HS1.out h.rd).mono ?_; rintro e z ⟨rfl, hR, ho⟩; have S := Go.Lib.hid (h.read HN.out hR ho); clear h hR ho S1 c0 c1 c2 ff; obtain ⟨c0, c1, c2⟩ := S.out.b3.cells; have ff := S.out.b3.free; have S2 := Go.Lib.hid (S.out.set1 HN.out (.int .i64 k)); clear S))
   | (have h := S0.out; go_at_call 82; (refine (CU1.out _ HS0.out h.rd).mono ?_; rintro e z ⟨rfl, hR, ho⟩; have S := Go.Lib.hid (h.read HN.out hR ho); clear h hR ho S0 c0 c1 c2 ff; obtain ⟨c0, c1, c2⟩ := S.out.b3.cells; have ff := S.out.b3.free; have S1 := Go.Lib.hid (S.out.set0 HN.out (.int .i64 f)); clear S)))
  (try simp only [Exit.inBlock, Exit.then])
  obtain ⟨r0, r1, r2⟩ := (S4.out.b2.laid (.int .i64 f) (.int .i64 k) (.slice A (got R3.l R3.b N).length c)).cells
  unfold three at r0 r1 r2
  refine bodyPost_ret (v := .agg #[.int .i64 f, .int .i64 k, .slice A (got R3.l R3.b N).length c]) (by simp [results, Tryz.results86, go_sem, r0, r1, r2]) rfl ?_
  have U1 : U8s (z.setCell ⟨w.heap.size + 1, 2, none⟩ (.slice A (got R3.l R3.b N).length c)) (.slice A (got R3.l R3.b N).length c) (got R3.l R3.b N) := u8_apart HU.out (HZ.out.no8 (no8_i _) (no8_i _) (no8_s _ _ _)) (fun q hq => Go.RowKit.Below.heap_setCell _ _ _ _ hq) (by simp)
  have ho := three_off (z.setCell ⟨w.heap.size + 1, 2, none⟩ (.slice A (got R3.l R3.b N).length c)) w.heap.size (.int .i64 f) (.int .i64 k) (.slice A (got R3.l R3.b N).length c)
  have U2 := u8_apart U1 (S4.out.b2.no8 (no8_i _) (no8_i _) (no8_s _ _ _)) ho.1 ho.2
  have hrd : R (three (z.setCell ⟨w.heap.size + 1, 2, none⟩ (.slice A (got R3.l R3.b N).length c)) w.heap.size (.int .i64 f) (.int .i64 k) (.slice A (got R3.l R3.b N).length c)) base n v (R3.go N).l (R3.go N).b F := S4.out.rd.keep (fun q hq => ho.1 q (by have := HN.out; omega)) ho.2
  refine ⟨A, c, ?_, ?_, ?_, ⟨S4.out.on.os, S4.out.on.tape, S4.out.on.output, Nat.le_trans S4.out.on.size ho.2, fun q hq hf => (ho.1 q (by omega)).trans (S4.out.on.block q hq hf)⟩⟩
  ·rw [HV.out.1]
  ·rw [HV.out.1]; exact U2
  ·rw [HV.out.2]; exact hrd
end Go.Proofs.YtlhdjdnflpilbaaGreatDoor.Att
namespace Go.Proofs.YtlhdjdnflpilbaaGreatDoor.Att
open Go.RowKit Mem Segm Oct
theorem next_some {l : List Nat} {x : Item} (h : itemOf l = some x) : nxF l = x.f ∧ nxK l = x.k ∧ nxV l = x.v ∧ nxR l = ⟨x.r, false⟩ := by
 match l, h with
 | [], h => simp [itemOf] at h
 | [_], h => simp [itemOf] at h
 | f :: k :: r, h =>
  unfold itemOf at h
  dsimp only at h
  have eF : nxF (f :: k :: r) = f := (head_go f (k :: r)).2
  have eK : nxK (f :: k :: r) = k := by unfold nxK; rw [(head_go f (k :: r)).1]; exact (head_go k r).2
  have e2 : (((Rd.mk (f :: k :: r) false).go 1).go 1) = ⟨r, false⟩ := by rw [(head_go f (k :: r)).1]; exact (head_go k r).1
  rw [eF, eK]
  by_cases hl : f / 16 % 2 = 1
  ·rw [if_pos hl] at h
   have eW : nxW (f :: k :: r) = 2 := by unfold nxW; rw [eF, if_pos hl]
   match r, h with
   | [], h => simp at h
   | [_], h => simp at h
   | n1 :: n0 :: r2, h =>
    dsimp only at h
    split at h
    ·rename_i hle
     injection h with h
     subst h
     have eN : nxN (f :: k :: n1 :: n0 :: r2) = n1 * 256 + n0 := by unfold nxN; rw [e2, eW]; exact (two_go n1 n0 r2).2
     have e3 : nx3 (f :: k :: n1 :: n0 :: r2) = ⟨r2, false⟩ := by unfold nx3; rw [e2, eW]; exact (two_go n1 n0 r2).1
     obtain ⟨g1, g2⟩ := fit_go hle
     refine ⟨rfl, rfl, ?_, ?_⟩
     ·unfold nxV; rw [e3, eN]; exact g2
     ·unfold nxR; rw [e3, eN]; exact g1
    ·cases h
  ·rw [if_neg hl] at h
   have eW : nxW (f :: k :: r) = 1 := by unfold nxW; rw [eF, if_neg hl]
   match r, h with
   | [], h => simp at h
   | n0 :: r2, h =>
    dsimp only at h
    split at h
    ·rename_i hle
     injection h with h
     subst h
     have eN : nxN (f :: k :: n0 :: r2) = n0 := by unfold nxN; rw [e2, eW]; exact (head_go n0 r2).2
     have e3 : nx3 (f :: k :: n0 :: r2) = ⟨r2, false⟩ := by unfold nx3; rw [e2, eW]; exact (head_go n0 r2).1
     obtain ⟨g1, g2⟩ := fit_go hle
     refine ⟨rfl, rfl, ?_, ?_⟩
     ·unfold nxV; rw [e3, eN]; exact g2
     ·unfold nxR; rw [e3, eN]; exact g1
    ·cases h
theorem next_none {l : List Nat} (h : itemOf l = none) : (nxR l).b = true := by
 match l, h with
 | [], _ =>
  have h1 := go_short (l := []) (k := 1) (by decide)
  exact go_bad (go_bad (go_bad h1.1 _) _) _
 | [f], _ =>
  have h1 : (((Rd.mk [f] false).go 1).go 1).b = true := by rw [(head_go f []).1]; exact (go_short (by decide)).1
  exact go_bad (go_bad h1 _) _
 | f :: k :: r, h =>
  unfold itemOf at h
  dsimp only at h
  have eF : nxF (f :: k :: r) = f := (head_go f (k :: r)).2
  have e2 : (((Rd.mk (f :: k :: r) false).go 1).go 1) = ⟨r, false⟩ := by rw [(head_go f (k :: r)).1]; exact (head_go k r).1
  by_cases hl : f / 16 % 2 = 1
  ·rw [if_pos hl] at h
   have eW : nxW (f :: k :: r) = 2 := by unfold nxW; rw [eF, if_pos hl]
   match r, h with
   | [], _ =>
    have h3 : (nx3 (f :: k :: [])).b = true := by unfold nx3; rw [e2, eW]; exact (go_short (by decide)).1
    exact go_bad h3 _
   | [n1], _ =>
    have h3 : (nx3 (f :: k :: [n1])).b = true := by unfold nx3; rw [e2, eW]; exact (go_short (by simp)).1
    exact go_bad h3 _
   | n1 :: n0 :: r2, h =>
    dsimp only at h
    split at h
    ·cases h
    ·rename_i hle
     have eN : nxN (f :: k :: n1 :: n0 :: r2) = n1 * 256 + n0 := by unfold nxN; rw [e2, eW]; exact (two_go n1 n0 r2).2
     have e3 : nx3 (f :: k :: n1 :: n0 :: r2) = ⟨r2, false⟩ := by unfold nx3; rw [e2, eW]; exact (two_go n1 n0 r2).1
     unfold nxR; rw [e3, eN]
     exact (go_short (by omega)).1
  ·rw [if_neg hl] at h
   have eW : nxW (f :: k :: r) = 1 := by unfold nxW; rw [eF, if_neg hl]
   match r, h with
   | [], _ =>
    have h3 : (nx3 (f :: k :: [])).b = true := by unfold nx3; rw [e2, eW]; exact (go_short (by decide)).1
    exact go_bad h3 _
   | n0 :: r2, h =>
    dsimp only at h
    split at h
    ·cases h
    ·rename_i hle
     have eN : nxN (f :: k :: n0 :: r2) = n0 := by unfold nxN; rw [e2, eW]; exact (head_go n0 r2).2
     have e3 : nx3 (f :: k :: n0 :: r2) = ⟨r2, false⟩ := by unfold nx3; rw [e2, eW]; exact (head_go n0 r2).1
     unfold nxR; rw [e3, eN]
     exact (go_short (by omega)).1
theorem three_boxes (w : World) (t1 t2 t3 : TypeId) (x0 x1 x2 y0 y1 y2 z0 z1 z2 : Value) :
  Box3 (((w.alloc (.cells #[x0, x1, x2] t1)).alloc (.cells #[y0, y1, y2] t2)).alloc (.cells #[z0, z1, z2] t3)) w.heap.size t1 x0 x1 x2 ∧
  Box3 (((w.alloc (.cells #[x0, x1, x2] t1)).alloc (.cells #[y0, y1, y2] t2)).alloc (.cells #[z0, z1, z2] t3)) (w.heap.size + 1) t2 y0 y1 y2 ∧
  Box3 (((w.alloc (.cells #[x0, x1, x2] t1)).alloc (.cells #[y0, y1, y2] t2)).alloc (.cells #[z0, z1, z2] t3)) (w.heap.size + 1 + 1) t3 z0 z1 z2 ∧
  Below w.heap.size w (((w.alloc (.cells #[x0, x1, x2] t1)).alloc (.cells #[y0, y1, y2] t2)).alloc (.cells #[z0, z1, z2] t3)) := by
 have h1 := Box3.new w t1 x0 x1 x2
 have b1 : Below w.heap.size w (w.alloc (.cells #[x0, x1, x2] t1)) := (Below.refl _ w).alloc (Nat.le_refl _) _
 have e1 : (w.alloc (.cells #[x0, x1, x2] t1)).heap.size = w.heap.size + 1 := by simp
 have h2 := Box3.new (w.alloc (.cells #[x0, x1, x2] t1)) t2 y0 y1 y2
 have k2 : Below (w.alloc (.cells #[x0, x1, x2] t1)).heap.size (w.alloc (.cells #[x0, x1, x2] t1)) ((w.alloc (.cells #[x0, x1, x2] t1)).alloc (.cells #[y0, y1, y2] t2)) := (Below.refl _ _).alloc (Nat.le_refl _) _
 have e2 : ((w.alloc (.cells #[x0, x1, x2] t1)).alloc (.cells #[y0, y1, y2] t2)).heap.size = w.heap.size + 1 + 1 := by simp
 have h3 := Box3.new ((w.alloc (.cells #[x0, x1, x2] t1)).alloc (.cells #[y0, y1, y2] t2)) t3 z0 z1 z2
 have k3 : Below ((w.alloc (.cells #[x0, x1, x2] t1)).alloc (.cells #[y0, y1, y2] t2)).heap.size ((w.alloc (.cells #[x0, x1, x2] t1)).alloc (.cells #[y0, y1, y2] t2)) (((w.alloc (.cells #[x0, x1, x2] t1)).alloc (.cells #[y0, y1, y2] t2)).alloc (.cells #[z0, z1, z2] t3)) := (Below.refl _ _).alloc (Nat.le_refl _) _
 rw [e1] at h2
 rw [e2] at h3
 have b2 := b1.trans (k2.mono b1.size)
 exact ⟨(h1.keep k2).keep k3, h2.keep k3, h3, b2.trans (k3.mono b2.size)⟩
set_option maxRecDepth 100000 in
set_option maxHeartbeats 4000000 in
theorem notice_none (f k : Int) (A : Option Addr) (m c sub : Nat) (w : World) (hs : sub = 1 ∨ sub = 11) : Calls Tryz.prog 87 #[.agg #[.int .i64 f, .int .i64 k, .slice A m c], .int .i64 sub] w (Tells (.agg #[.int .i64 3, .int .i64 sub, .slice none 0 0]) w) := by
 have HL := Go.Lib.hid (fun s => (three_boxes w 90 41 41 (.int .i64 f) (.int .i64 k) (.slice A m c) (.int .i64 3) (.int .i64 s) (.slice none 0 0) (.int .i64 3) (.int .i64 s) (.slice none 0 0)).2.2.2)
 rcases hs with rfl | rfl
 ·go_enter Tryz.func87, Tryz.ntmps87
  go_wp2
  (try simp only [Exit.inBlock, Exit.then])
  refine bodyPost_ret (v := .agg #[.int .i64 3, .int .i64 1, .slice none 0 0]) (by simp [results, Tryz.results87, go_sem]) rfl ?_
  exact ⟨rfl, HL.out _⟩
 ·go_enter Tryz.func87, Tryz.ntmps87
  go_wp2
  (try simp only [Exit.inBlock, Exit.then])
  refine bodyPost_ret (v := .agg #[.int .i64 3, .int .i64 11, .slice none 0 0]) (by simp [results, Tryz.results87, go_sem]) rfl ?_
  exact ⟨rfl, HL.out _⟩
set_option maxRecDepth 100000 in
set_option maxHeartbeats 4000000 in
theorem notice_data (f k : Nat) (A : Option Addr) (m : List Nat) (c sub : Nat) (w : World) (hx : U8s w (.slice A m.length c) m) (hf : f < 256) (hk : k < 256) (hm : m.length ≤ 65535) (hc : 255 < m.length → f / 16 % 2 = 1) (h1 : sub ≠ 1) (h11 : sub ≠ 11) (hsub : sub < 256) :
  Calls Tryz.prog 87 #[.agg #[.int .i64 f, .int .i64 k, .slice A m.length c], .int .i64 sub] w (fun e w' => ∃ v', e = .returned v' ∧ Note w' v' ⟨3, sub, itemB f k m⟩ ∧ Below w.heap.size w w') := by
 obtain ⟨q1, q2, q3, hb⟩ := three_boxes w 90 41 41 (.int .i64 f) (.int .i64 k) (.slice A m.length c) (.int .i64 0) (.int .i64 0) (.slice none 0 0) (.int .i64 3) (.int .i64 sub) (.slice none 0 0)
 have e3 : (((w.alloc (.cells #[.int .i64 f, .int .i64 k, .slice A m.length c] 90)).alloc (.cells #[.int .i64 0, .int .i64 0, .slice none 0 0] 41)).alloc (.cells #[.int .i64 3, .int .i64 sub, .slice none 0 0] 41)).heap.size = w.heap.size + 1 + 1 + 1 := by simp
 have hW := wr_zero (((w.alloc (.cells #[.int .i64 f, .int .i64 k, .slice A m.length c] 90)).alloc (.cells #[.int .i64 0, .int .i64 0, .slice none 0 0] 41)).alloc (.cells #[.int .i64 3, .int .i64 sub, .slice none 0 0] 41)) (base := w.heap.size) hb.size
 rw [e3] at hW
 have kb : Below (((w.alloc (.cells #[.int .i64 f, .int .i64 k, .slice A m.length c] 90)).alloc (.cells #[.int .i64 0, .int .i64 0, .slice none 0 0] 41)).alloc (.cells #[.int .i64 3, .int .i64 sub, .slice none 0 0] 41)).heap.size _ ((((w.alloc (.cells #[.int .i64 f, .int .i64 k, .slice A m.length c] 90)).alloc (.cells #[.int .i64 0, .int .i64 0, .slice none 0 0] 41)).alloc (.cells #[.int .i64 3, .int .i64 sub, .slice none 0 0] 41)).alloc (.cells #[.slice none 0 0] 52)) := (Below.refl _ _).alloc (Nat.le_refl _) _
 replace q1 := q1.keep kb
 replace q2 := q2.keep kb
 replace q3 := q3.keep kb
 have hb4 := hb.trans (kb.mono hb.size)
 have y1 : ((sub : Int) != 1) = true := by simp; omega
 have y2 : ((sub : Int) != 11) = true := by simp; omega
 have CP := Go.Lib.hid (put_item _ A c w.heap.size f k [] m _ _ hW (fun W' ho => hx.keep (hb4.trans (ho.below (fun j hj => by omega) hb4.size))) (by simp; omega) hb4.size hf hk hm hc)
 have HIL := Go.Lib.hid (show (itemB f k m).length ≤ 70000 by unfold itemB; split <;> simp [big_len] <;> omega)
 rw [List.nil_append] at CP
 generalize itemB f k m = M at CP HIL ⊢
 have S0 := Go.Lib.hid (And.intro q1 (And.intro q2 (And.intro q3 hb4)))
 have HSB := Go.Lib.hid (show (Lit.int .i64 (sub : Int)).wf = true by simp [Lit.wf, IntKind.min, IntKind.max, IntKind.signed, IntKind.bits]; omega)
 obtain ⟨c0, c1, c2⟩ := q1.cells
 clear hx hf hk hm hc h1 h11 hsub q1 q2 q3 hb hW e3 kb hb4
 go_enter Tryz.func87, Tryz.ntmps87
 go_wp2_with (first
  | (go_at_call 61; (refine (CP.out).mono ?_; rintro e x ⟨rfl, F2, hS⟩; have W2 := Go.Lib.hid hS; have S1 := Go.Lib.hid (And.intro (S0.out.2.1.below (fun j hj => hS.on.block j (by subst hj; exact S0.out.2.1.lt) (by omega))) (And.intro (S0.out.2.2.1.below (fun j hj => hS.on.block j (by subst hj; exact S0.out.2.2.1.lt) (by omega))) (S0.out.2.2.2.trans (hS.on.below (n := w.heap.size) (fun j hj => by omega) S0.out.2.2.2.size)))); clear hS c0 c1 c2 S0))
  | (go_at_call 24; (refine (wbytes_any _ _ _ _ _ W2.out.wr (Nat.le_trans HIL.out (by decide))).mono ?_; rintro e y ⟨Ab, cb, rfl, ho, hy⟩; have U1 := Go.Lib.hid (U8s.of_own ho (wr_small W2.out.wr)); have S2 := Go.Lib.hid (And.intro (S1.out.1.keep hy) (And.intro ((S1.out.2.1.keep hy).set2 (.slice Ab M.length cb)) (S1.out.2.2.trans (hy.mono S1.out.2.2.size)))); obtain ⟨d0, d1, d2⟩ := (S1.out.2.1.keep hy).cells; have fd := (S1.out.2.1.keep hy).free; have T2 := Go.Lib.hid (S1.out.2.1.keep hy); obtain ⟨g0, g1, g2⟩ := S2.out.2.1.cells; have E2 := Go.Lib.hid ((S2.out.1.far (i := 2) (C := w.heap.size + 1 + 1) (by omega) (.slice Ab M.length cb))); obtain ⟨e0, e1, e2⟩ := E2.out.cells; have fe := E2.out.free; clear ho hy S1)))
 (try simp only [Exit.inBlock, Exit.then])
 obtain ⟨r0, r1, r2⟩ := (E2.out.laid (.int .i64 3) (.int .i64 sub) (.slice Ab M.length cb)).cells
 unfold three at r0 r1 r2
 refine bodyPost_ret (v := .agg #[.int .i64 3, .int .i64 sub, .slice Ab M.length cb]) (by simp [results, Tryz.results87, go_sem, r0, r1, r2]) rfl ?_
 have ho := three_off (y.setCell ⟨w.heap.size + 1 + 1, 2, none⟩ (.slice Ab M.length cb)) (w.heap.size + 1) (.int .i64 3) (.int .i64 sub) (.slice Ab M.length cb)
 have U2 : U8s (y.setCell ⟨w.heap.size + 1 + 1, 2, none⟩ (.slice Ab M.length cb)) (.slice Ab M.length cb) M := u8_apart U1.out (T2.out.no8 (no8_i _) (no8_i _) (no8_s _ _ _)) (fun q hq => Go.RowKit.Below.heap_setCell _ _ _ _ hq) (by simp)
 have U3 := u8_apart U2 (E2.out.no8 (no8_i _) (no8_i _) (no8_s _ _ _)) ho.1 ho.2
 exact ⟨_, rfl, ⟨show (Lit.int .i64 3).wf = true by decide, HSB.out, _, rfl, U3⟩, three_low (S2.out.2.2.setCell (p := ⟨w.heap.size + 1 + 1, 2, none⟩) (by show w.heap.size ≤ w.heap.size + 1 + 1; omega) _) _ (by omega) _ _ _⟩
end Go.Proofs.YtlhdjdnflpilbaaGreatDoor.Att
namespace Go.Proofs.YtlhdjdnflpilbaaGreatDoor.Att
open Go.RowKit Mem Segm Oct Seg
theorem pathOf_fuel : ∀ (n m : Nat) (b : List Nat), b.length ≤ n → b.length ≤ m → pathOf n b = pathOf m b
 | 0, 0, _, _, _ => rfl
 | 0, m + 1, b, h, _ => by
  obtain rfl : b = [] := List.eq_nil_of_length_eq_zero (by omega)
  rfl
 | n + 1, 0, b, _, h => by
  obtain rfl : b = [] := List.eq_nil_of_length_eq_zero (by omega)
  rfl
 | n + 1, m + 1, b, hn, hm => by
  match b, hn, hm with
  | [], _, _ => rfl
  | [_], _, _ => rfl
  | k :: c :: r, hn, hm =>
   simp only [List.length_cons] at hn hm
   unfold pathOf
   dsimp only
   rw [pathOf_fuel n m (r.drop (4 * c)) (by rw [List.length_drop]; omega) (by rw [List.length_drop]; omega)]
theorem pathIs_step (k c : Nat) (r : List Nat) : pathIs (k :: c :: r) = if (k = 1 ∨ k = 2) ∧ c ≠ 0 ∧ 4 * c ≤ r.length then (pathIs (r.drop (4 * c))).map fun l => ((k : Int), quadsN r c) :: l else none := by
 unfold pathIs
 have h : pathOf (r.length + 1 + 1) (k :: c :: r) = if (k = 1 ∨ k = 2) ∧ c ≠ 0 ∧ 4 * c ≤ r.length then (pathOf (r.length + 1) (r.drop (4 * c))).map fun l => ((k : Int), quadsN r c) :: l else none := rfl
 rw [show (k :: c :: r).length = r.length + 1 + 1 from rfl, h, pathOf_fuel (r.length + 1) (r.drop (4 * c)).length (r.drop (4 * c)) (by rw [List.length_drop]; omega) (Nat.le_refl _)]
theorem pathIs_nil : pathIs [] = some [] := rfl
theorem path_round (a : Nat) (m : List Nat) : ∀ c x y, c = (Rd.mk m false).num 1 → x = (Rd.mk m false).go 1 → y = leftN x.l x.b c →
  ((y.2 = false ∧ (a = 1 ∨ a = 2) ∧ c ≠ 0 → pathIs (a :: m) = (pathIs y.1).map (fun l => ((a : Int), tookN x.l x.b c) :: l) ∧ y.1.length < m.length) ∧ (¬ (y.2 = false ∧ (a = 1 ∨ a = 2) ∧ c ≠ 0) → pathIs (a :: m) = none)) := by
 rintro c x y rfl rfl rfl
 match m with
 | [] =>
  have h : (leftN ((Rd.mk [] false).go 1).l ((Rd.mk [] false).go 1).b ((Rd.mk [] false).num 1)).2 = true := by
   rw [show ((Rd.mk [] false).go 1).b = true from (go_short (by decide)).1]
   exact left_bad _
  exact ⟨fun hh => absurd (h.symm.trans hh.1) (by decide), fun _ => rfl⟩
 | c :: r =>
  obtain ⟨h1, h2⟩ := head_go c r
  rw [h1, h2]
  dsimp only
  rw [pathIs_step]
  by_cases hc : 4 * c ≤ r.length
  ·obtain ⟨h3, h4⟩ := took_good (l := r) c hc
   rw [h3, h4]
   refine ⟨fun hh => ?_, fun hh => ?_⟩
   ·rw [if_pos ⟨hh.2.1, hh.2.2, hc⟩]
    refine ⟨rfl, ?_⟩
    rw [List.length_drop, List.length_cons]; omega
   ·rw [if_neg (fun q => hh ⟨rfl, q.1, q.2.1⟩)]
  ·have h3 := took_bad (l := r) c (by omega)
   rw [h3]
   exact ⟨fun hh => absurd hh.1 (by decide), fun _ => by rw [if_neg (fun q => hc q.2.2)]⟩
theorem segs_on {F : Nat → Prop} {W W' : World} {t : TypeId} {n : Nat} {v : Value} {p : List Piece} (h : OwnSegsF t n n W v p) (ho : Only F W W') (hF : ∀ k, F k → k < n) : OwnSegsF t n n W' v p := by
 obtain ⟨q, h1, h2, h3, h4⟩ := h
 refine ⟨q, ?_, h2.map fun x l hx hu => ?_, h3, h4⟩
 ·obtain ⟨k1, k2⟩ := h1
  refine ⟨k1, ?_⟩
  rcases k2 with k2 | ⟨g, cap, cur, hv, hg, hh, r⟩
  ·exact .inl k2
  ·refine .inr ⟨g, cap, cur, hv, hg, (ho.block g ?_ (fun hf => by have := hF g hf; omega)).trans hh, r⟩
   exact (Array.getElem?_eq_some_iff.1 hh).1
 ·obtain ⟨⟨hl, A, c, rfl, hn, hc, hr⟩, hsm⟩ := hu
  refine ⟨⟨hl, A, c, rfl, hn, hc, fun h0 => ?_⟩, hsm⟩
  obtain ⟨b, off, rfl, hlt, hcell⟩ := hr h0
  have hb := h4 _ hx b off _ c rfl h0
  have hs := ho.block b hlt (fun hf => by have := hF b hf; omega)
  exact ⟨b, off, rfl, Nat.lt_of_lt_of_le hlt ho.size, fun i y hy => by rw [← hcell i y hy]; exact World.cell?_of_block hs⟩
theorem segs_push {W W2 : World} {base fb L c c2 : Nat} {A A2 : Option Addr} {p : List Piece} {q : List Value} {k : Int} {x : Value} {l : List Nat} (hq : Nums32 W p q) (hf : FreshQ fb q) (ha : Apart (.slice A L c) q) (hx : U32s W x l)
  (hxf : ∀ b off m c', x = .slice (some ⟨b, off, none⟩) m c' → 0 < m → fb ≤ b ∧ (Value.slice A L c).ownBlock ≠ some b) (hL : L = p.length)
  (hown : W2.ownsRow base 117 2 (.slice A2 (L + 1) c2) (L + 1) (segCells p q ++ [.int .i64 k, x]))
  (hg : (W.alloc (.cells #[.int .i64 k, x] 117)).grownBy W2 (Value.slice A L c).ownBlock)
  (hat : (Value.slice A2 (L + 1) c2).ownBlock = (Value.slice A L c).ownBlock ∨ (Value.slice A2 (L + 1) c2).ownBlock = some (W.alloc (.cells #[.int .i64 k, x] 117)).heap.size) :
  OwnSegsF 117 base fb W2 (.slice A2 (L + 1) c2) (p ++ [(k, l)]) := by
 obtain ⟨k1, k2, k3⟩ := segs_grownQ (p2 := [(k, l)]) (q2 := [x]) ((Below.refl _ _).alloc (Nat.le_refl _) _) hq ha (Nums32.one hx) (Apart.one fun b off m c' e h0 => (hxf b off m c' e h0).2) hg hat (by simp) (by rw [hL]; rfl) hown
 exact ⟨_, k1, k2, k3, hf.append (FreshQ.one fun b off m c' e h0 => (hxf b off m c' e h0).1)⟩
theorem own_fresh {W : World} {base n size : Nat} {e : TypeId} {v : Value} {m : Nat} {xs : List Value} (h : W.ownsRow base e size v m xs) (hn : W.heap.size ≤ n) {b : Nat} (hb : n ≤ b) : v.ownBlock ≠ some b := fun hv => by
 have := (h.lt b hv).2
 omega
theorem fresh_apart {W : World} {N : Nat} {u x : Value} {p : List Piece} (h : OwnSegsF 117 N N W u p) (hN : N ≤ W.heap.size) (hn : NewAt W.heap.size x) : ∀ b off m c', x = .slice (some ⟨b, off, none⟩) m c' → 0 < m → N ≤ b ∧ u.ownBlock ≠ some b := fun b off m c' e h0 => by
 have hb := hn b off m c' e h0
 obtain ⟨q, h1, -⟩ := h
 exact ⟨Nat.le_trans hN hb, own_fresh h1 (Nat.le_refl _) hb⟩
def PathF (b : List Nat) (w : World) (e : Ending) (w' : World) : Prop :=
 Below w.heap.size w w' ∧ match pathIs b with
  | some p => ∃ v, e = .returned (.tuple #[v, .bool true]) ∧ OwnSegsF 117 w.heap.size w.heap.size w' v p
  | none => e = .returned (.tuple #[.slice none 0 0, .bool false])
def slen : Value → Nat
 | .slice _ n _ => n
 | _ => 0
structure PtSt (w0 : World) (N B : Nat) (x : Rd) (u : Value) (p : List Piece) (W : World) : Prop where
 rd : R W w0.heap.size N (.pointer (some ⟨B, 0, none⟩)) x.l x.b (fun k => k = B)
 own : OwnSegsF 117 N N W u p
 low : Below w0.heap.size w0 W
 n : N ≤ W.heap.size ∧ w0.heap.size ≤ N
section
variable {w0 W W2 : World} {N B : Nat} {x y : Rd} {u : Value} {p : List Piece}
theorem PtSt.read (h : PtSt w0 N B x u p W) (hr : R W2 w0.heap.size N (.pointer (some ⟨B, 0, none⟩)) y.l y.b (fun k => k = B)) (ho : Only (fun k => k = B) W W2) : PtSt w0 N B y u p W2 := by
 have hB := h.rd.low B rfl
 exact ⟨hr, segs_on h.own ho (fun k e => by subst e; exact hB.2), h.low.trans (ho.below (fun k e => by subst e; exact hB.1) h.low.size), Nat.le_trans h.n.1 ho.size, h.n.2⟩
theorem PtSt.below (h : PtSt w0 N B x u p W) (hb : Below W.heap.size W W2) : PtSt w0 N B x u p W2 :=
 ⟨h.rd.below hb, h.own.keep hb, h.low.trans (hb.mono h.low.size), Nat.le_trans h.n.1 hb.size, h.n.2⟩
end
set_option maxRecDepth 100000 in
set_option maxHeartbeats 8000000 in
theorem path_any (v : Value) (b : List Nat) (w : World) (hv : U8s w v b) (hl : b.length ≤ 100000) : Calls Tryz.prog 116 #[v] w (PathF b w) := by
 obtain ⟨ie, E⟩ := elemSeg
 have CN := Go.Lib.hid (new_any v b w hv (by omega))
 have HS := Go.Lib.hid hv.2
 have HL := Go.Lib.hid hl
 clear hv hl
 go_enter Tryz.func116, Tryz.ntmps116
 go_wp2_with (go_at_call 40; refine (CN.out).mono ?_; rintro e w1 ⟨B, rfl, hR, hb⟩; have ST0 := Go.Lib.hid (show PtSt w w1.heap.size B ⟨b, false⟩ (.slice none 0 0) [] w1 from ⟨hR, nil_segsF _ _ _, hb, Nat.le_refl _, hb.size⟩); clear hR hb)
 obtain ⟨N, hN⟩ : ∃ N, N = w1.heap.size := ⟨_, rfl⟩
 rw [← hN] at ST0
 clear hN
 go_loopw [4] (fun v4 wx => ∃ (m : List Nat) (p : List Piece) (A : Option Addr) (c : Nat), v4 = .slice A p.length c ∧ Hid (Small m ∧ p.length + m.length ≤ b.length ∧ pathIs b = (pathIs m).map fun l => p ++ l) ∧ Hid (PtSt w N B ⟨m, false⟩ (.slice A p.length c) p wx)) (fun v4 _ => b.length - slen v4)
 case atStart => exact ⟨b, [], none, 0, rfl, Go.Lib.hid ⟨HS.out, by simp, by simp⟩, ST0⟩
 case round =>
  obtain ⟨m, p, A, c, rfl, HI, ST⟩ := hrel
  have CL := Go.Lib.hid (left_any _ _ _ _ _ _ wr ST.out.rd)
  dsimp only at CL
  rcases m with _ | ⟨a, m1⟩
  ·have e0 : ¬ ((([] : List Nat).length : Nat) : Int) > 0 := by simp
   go_wp2_with (go_at_call 47; refine (CL.out).mono ?_; rintro e x ⟨rfl, hb⟩; replace ST := Go.Lib.hid (ST.out.below hb); clear hb)
   go_ret2
   refine ⟨ST.out.low, ?_⟩
   rw [HI.out.2.2, pathIs_nil]
   show ∃ v, Ending.returned (.tuple #[.slice A p.length c, .bool true]) = .returned (.tuple #[v, .bool true]) ∧ OwnSegsF 117 w.heap.size w.heap.size x v (p ++ [])
   rw [List.append_nil]
   exact ⟨_, rfl, ST.out.own.lower ST.out.n.2 ST.out.n.2⟩
  ·have hsm := HI.out.1
   have hs1 : Small m1 := fun n hn => hsm n (by simp [hn])
   have z1 : (((a :: m1).length : Nat) : Int) > 0 := by simp only [List.length_cons]; omega
   have CU := Go.Lib.hid (fun (x : Rd) (W : World) (hs : Small x.l) (h : R W w.heap.size N (.pointer (some ⟨B, 0, none⟩)) x.l x.b (fun k => k = B)) => show Calls Tryz.prog 82 #[.pointer (some ⟨B, 0, none⟩)] W (fun e w' => e = .returned (.int .i64 (x.num 1 : Nat)) ∧ R w' w.heap.size N (.pointer (some ⟨B, 0, none⟩)) (x.go 1).l (x.go 1).b (fun k => k = B) ∧ Only (fun k => k = B) W w') from u8_any _ _ _ x.l x.b _ W hs h)
   have CU1 := Go.Lib.hid (fun W h => CU.out ⟨a :: m1, false⟩ W hsm h)
   rw [(head_go a m1).1, (head_go a m1).2] at CU1
   have CU2 := Go.Lib.hid (fun W h => CU.out ⟨m1, false⟩ W hs1 h)
   have CT := Go.Lib.hid (fun W (hn : N ≤ W.heap.size) h => take_n (.pointer (some ⟨B, 0, none⟩)) w.heap.size N ((Rd.mk m1 false).go 1).l ((Rd.mk m1 false).go 1).b (fun k => k = B) ((Rd.mk m1 false).num 1) W (Rd.small (x := ⟨m1, false⟩) hs1 1) h hn (Nat.le_trans (Nat.le_of_lt (num_lt (x := ⟨m1, false⟩) hs1 1)) (by decide)))
   have HR := Go.Lib.hid (path_round a m1 _ _ _ rfl rfl rfl)
   have HY := Go.Lib.hid (show Small (leftN ((Rd.mk m1 false).go 1).l ((Rd.mk m1 false).go 1).b ((Rd.mk m1 false).num 1)).1 ∧ (tookN ((Rd.mk m1 false).go 1).l ((Rd.mk m1 false).go 1).b ((Rd.mk m1 false).num 1)).length = (Rd.mk m1 false).num 1 from ⟨leftN_small (Rd.small (x := ⟨m1, false⟩) hs1 1) _, tookN_len _ _ _⟩)
   unfold TakeN at CT
   generalize leftN ((Rd.mk m1 false).go 1).l ((Rd.mk m1 false).go 1).b ((Rd.mk m1 false).num 1) = y at CT HR HY
   generalize tookN ((Rd.mk m1 false).go 1).l ((Rd.mk m1 false).go 1).b ((Rd.mk m1 false).num 1) = ns at CT HR HY
   generalize (Rd.mk m1 false).num 1 = k at CU2 CT HR HY
   generalize (Rd.mk m1 false).go 1 = x at CU2 CT
   clear CU hsm hs1
   obtain ⟨y, bad⟩ := y
   dsimp only at CT HR HY
   have hpl : p.length + (m1.length + 1) ≤ 100000 := Nat.le_trans HI.out.2.1 HL.out
   by_cases hok : bad = false ∧ (a = 1 ∨ a = 2) ∧ k ≠ 0
   ·have HP := Go.Lib.hid (HR.out.1 hok)
    obtain ⟨rfl, ha, hk⟩ := hok
    have zk : ((k : Int) == 0) = false := by simp; omega
    rcases ha with rfl | rfl
    ·go_wp2_with (first
     | (go_at_call 47; refine (CL.out).mono ?_; rintro e x1 ⟨rfl, hb⟩; have S1 := Go.Lib.hid (ST.out.below hb); clear hb ST)
     | (have h := S1.out; go_at_call 82; (refine (CU1.out _ h.rd).mono ?_; rintro e x2 ⟨rfl, hr, ho⟩; have S2 := Go.Lib.hid (h.read (y := ⟨m1, false⟩) hr ho); clear h hr ho S1))
     | (have h := S2.out; go_at_call 82; (refine (CU2.out _ h.rd).mono ?_; rintro e x3 ⟨rfl, hr, ho⟩; have S3 := Go.Lib.hid (h.read (y := x) hr ho); clear h hr ho S2))
     | (have h := S3.out; go_at_call 118; (refine (CT.out _ h.n.1 h.rd).mono ?_; rintro e x4 ⟨At, ct, rfl, hU, hn, hr, ho⟩; have HAP := Go.Lib.hid (fresh_apart h.own h.n.1 hn); have S4 := Go.Lib.hid (h.read (y := ⟨y, false⟩) hr ho); have HU := Go.Lib.hid hU; clear h hr ho hU hn S3))
     | (have h := S4.out; go_at_call 44; (refine (bad_any _ _ _ _ _ _ _ h.rd).mono ?_; rintro e x5 ⟨rfl, hb⟩; have S5 := Go.Lib.hid (h.below hb); replace HU := Go.Lib.hid (HU.out.keep hb); clear h hb S4))
     | (have h := S5.out; obtain ⟨q, o1, o2, o3, o4⟩ := h.own; at_builtin; (refine wpList_append_row rfl (.tmp 34) (.tmp 38) rfl E N _ p.length (segCells p q) rfl (o1.alloc _) _ 1 [.int .i64 1, .slice At k ct] rfl (row_seg_at _ _ _ _ rfl) (ones_two _ _ _ _) (by unfold maxLen; omega) (by omega) (by have := h.n.1; simp; omega) (p.length + 1) rfl ?_; intro A2 c2 w2 hown2 hg2 hat2 hb2; have S6 := Go.Lib.hid (segs_push (l := ns) o2 o4 o3 HU.out HAP.out rfl hown2 hg2 hat2); have HB6 := Go.Lib.hid hb2; clear h o1 o2 o3 o4 hown2 hg2 hat2 hb2)))
     go_roundw
     case rel =>
      have h := S6.out
      refine ⟨y, p ++ [((1 : Int), ns)], A2, c2, by rw [List.length_append]; rfl, Go.Lib.hid ⟨HY.out.1, ?_, ?_⟩, Go.Lib.hid ?_⟩
      ·have h1 := HP.out.2
       have h2 := HI.out.2.1
       simp only [List.length_append, List.length_cons, List.length_nil] at h2 ⊢
       omega
      ·rw [HI.out.2.2, HP.out.1]
       cases pathIs y <;> simp
      ·rw [List.length_append]
       have g := S5.out.below ((Below.refl _ _).alloc (Nat.le_refl _) (.cells #[.int .i64 1, .slice At k ct] 117))
       exact ⟨g.rd.keep (fun j hj => HB6.out.block j hj) HB6.out.size, h, g.low.trans (HB6.out.mono g.n.2), Nat.le_trans g.n.1 HB6.out.size, g.n.2⟩
     case measure =>
      have h2 := HI.out.2.1
      simp [slen] at h2 ⊢
      omega
    ·go_wp2_with (first
     | (go_at_call 47; refine (CL.out).mono ?_; rintro e x1 ⟨rfl, hb⟩; have S1 := Go.Lib.hid (ST.out.below hb); clear hb ST)
     | (have h := S1.out; go_at_call 82; (refine (CU1.out _ h.rd).mono ?_; rintro e x2 ⟨rfl, hr, ho⟩; have S2 := Go.Lib.hid (h.read (y := ⟨m1, false⟩) hr ho); clear h hr ho S1))
     | (have h := S2.out; go_at_call 82; (refine (CU2.out _ h.rd).mono ?_; rintro e x3 ⟨rfl, hr, ho⟩; have S3 := Go.Lib.hid (h.read (y := x) hr ho); clear h hr ho S2))
     | (have h := S3.out; go_at_call 118; (refine (CT.out _ h.n.1 h.rd).mono ?_; rintro e x4 ⟨At, ct, rfl, hU, hn, hr, ho⟩; have HAP := Go.Lib.hid (fresh_apart h.own h.n.1 hn); have S4 := Go.Lib.hid (h.read (y := ⟨y, false⟩) hr ho); have HU := Go.Lib.hid hU; clear h hr ho hU hn S3))
     | (have h := S4.out; go_at_call 44; (refine (bad_any _ _ _ _ _ _ _ h.rd).mono ?_; rintro e x5 ⟨rfl, hb⟩; have S5 := Go.Lib.hid (h.below hb); replace HU := Go.Lib.hid (HU.out.keep hb); clear h hb S4))
     | (have h := S5.out; obtain ⟨q, o1, o2, o3, o4⟩ := h.own; at_builtin; (refine wpList_append_row rfl (.tmp 34) (.tmp 38) rfl E N _ p.length (segCells p q) rfl (o1.alloc _) _ 1 [.int .i64 2, .slice At k ct] rfl (row_seg_at _ _ _ _ rfl) (ones_two _ _ _ _) (by unfold maxLen; omega) (by omega) (by have := h.n.1; simp; omega) (p.length + 1) rfl ?_; intro A2 c2 w2 hown2 hg2 hat2 hb2; have S6 := Go.Lib.hid (segs_push (l := ns) o2 o4 o3 HU.out HAP.out rfl hown2 hg2 hat2); have HB6 := Go.Lib.hid hb2; clear h o1 o2 o3 o4 hown2 hg2 hat2 hb2)))
     go_roundw
     case rel =>
      have h := S6.out
      refine ⟨y, p ++ [((2 : Int), ns)], A2, c2, by rw [List.length_append]; rfl, Go.Lib.hid ⟨HY.out.1, ?_, ?_⟩, Go.Lib.hid ?_⟩
      ·have h1 := HP.out.2
       have h2 := HI.out.2.1
       simp only [List.length_append, List.length_cons, List.length_nil] at h2 ⊢
       omega
      ·rw [HI.out.2.2, HP.out.1]
       cases pathIs y <;> simp
      ·rw [List.length_append]
       have g := S5.out.below ((Below.refl _ _).alloc (Nat.le_refl _) (.cells #[.int .i64 2, .slice At k ct] 117))
       exact ⟨g.rd.keep (fun j hj => HB6.out.block j hj) HB6.out.size, h, g.low.trans (HB6.out.mono g.n.2), Nat.le_trans g.n.1 HB6.out.size, g.n.2⟩
     case measure =>
      have h2 := HI.out.2.1
      simp [slen] at h2 ⊢
      omega
   ·have HN := Go.Lib.hid (HR.out.2 hok)
    cases bad with
    | true =>
     go_wp2_with (first
     | (go_at_call 47; refine (CL.out).mono ?_; rintro e x1 ⟨rfl, hb⟩; have S1 := Go.Lib.hid (ST.out.below hb); clear hb ST)
     | (have h := S1.out; go_at_call 82; (refine (CU1.out _ h.rd).mono ?_; rintro e x2 ⟨rfl, hr, ho⟩; have S2 := Go.Lib.hid (h.read (y := ⟨m1, false⟩) hr ho); clear h hr ho S1))
     | (have h := S2.out; go_at_call 82; (refine (CU2.out _ h.rd).mono ?_; rintro e x3 ⟨rfl, hr, ho⟩; have S3 := Go.Lib.hid (h.read (y := x) hr ho); clear h hr ho S2))
     | (have h := S3.out; go_at_call 118; (refine (CT.out _ h.n.1 h.rd).mono ?_; rintro e x4 ⟨At, ct, rfl, hU, hn, hr, ho⟩; have HAP := Go.Lib.hid (fresh_apart h.own h.n.1 hn); have S4 := Go.Lib.hid (h.read (y := ⟨y, true⟩) hr ho); have HU := Go.Lib.hid hU; clear h hr ho hU hn S3))
     | (have h := S4.out; go_at_call 44; (refine (bad_any _ _ _ _ _ _ _ h.rd).mono ?_; rintro e x5 ⟨rfl, hb⟩; have S5 := Go.Lib.hid (h.below hb); replace HU := Go.Lib.hid (HU.out.keep hb); clear h hb S4))
     | (have h := S5.out; obtain ⟨q, o1, o2, o3, o4⟩ := h.own; at_builtin; (refine wpList_append_row rfl (.tmp 34) (.tmp 38) rfl E N _ p.length (segCells p q) rfl (o1.alloc _) _ 1 [.int .i64 a, .slice At k ct] rfl (row_seg_at _ _ _ _ rfl) (ones_two _ _ _ _) (by unfold maxLen; omega) (by omega) (by have := h.n.1; simp; omega) (p.length + 1) rfl ?_; intro A2 c2 w2 hown2 hg2 hat2 hb2; have S6 := Go.Lib.hid (segs_push (l := ns) o2 o4 o3 HU.out HAP.out rfl hown2 hg2 hat2); have HB6 := Go.Lib.hid hb2; clear h o1 o2 o3 o4 hown2 hg2 hat2 hb2)))
     go_ret2
     refine ⟨S5.out.low, ?_⟩
     rw [HI.out.2.2, HN.out]
     rfl
    | false =>
     by_cases h1 : a = 1
     ·subst h1
      obtain rfl : k = 0 := by
       rcases Nat.eq_zero_or_pos k with h | h
       ·exact h
       ·exact absurd ⟨rfl, .inl rfl, by omega⟩ hok
      go_wp2_with (first
      | (go_at_call 47; refine (CL.out).mono ?_; rintro e x1 ⟨rfl, hb⟩; have S1 := Go.Lib.hid (ST.out.below hb); clear hb ST)
      | (have h := S1.out; go_at_call 82; (refine (CU1.out _ h.rd).mono ?_; rintro e x2 ⟨rfl, hr, ho⟩; have S2 := Go.Lib.hid (h.read (y := ⟨m1, false⟩) hr ho); clear h hr ho S1))
      | (have h := S2.out; go_at_call 82; (refine (CU2.out _ h.rd).mono ?_; rintro e x3 ⟨rfl, hr, ho⟩; have S3 := Go.Lib.hid (h.read (y := x) hr ho); clear h hr ho S2))
      | (have h := S3.out; go_at_call 118; (refine (CT.out _ h.n.1 h.rd).mono ?_; rintro e x4 ⟨At, ct, rfl, hU, hn, hr, ho⟩; have HAP := Go.Lib.hid (fresh_apart h.own h.n.1 hn); have S4 := Go.Lib.hid (h.read (y := ⟨y, false⟩) hr ho); have HU := Go.Lib.hid hU; clear h hr ho hU hn S3))
      | (have h := S4.out; go_at_call 44; (refine (bad_any _ _ _ _ _ _ _ h.rd).mono ?_; rintro e x5 ⟨rfl, hb⟩; have S5 := Go.Lib.hid (h.below hb); replace HU := Go.Lib.hid (HU.out.keep hb); clear h hb S4))
      | (have h := S5.out; obtain ⟨q, o1, o2, o3, o4⟩ := h.own; at_builtin; (refine wpList_append_row rfl (.tmp 34) (.tmp 38) rfl E N _ p.length (segCells p q) rfl (o1.alloc _) _ 1 [.int .i64 a, .slice At k ct] rfl (row_seg_at _ _ _ _ rfl) (ones_two _ _ _ _) (by unfold maxLen; omega) (by omega) (by have := h.n.1; simp; omega) (p.length + 1) rfl ?_; intro A2 c2 w2 hown2 hg2 hat2 hb2; have S6 := Go.Lib.hid (segs_push (l := ns) o2 o4 o3 HU.out HAP.out rfl hown2 hg2 hat2); have HB6 := Go.Lib.hid hb2; clear h o1 o2 o3 o4 hown2 hg2 hat2 hb2)))
      go_ret2
      refine ⟨S5.out.low, ?_⟩
      rw [HI.out.2.2, HN.out]
      rfl
     ·by_cases h2 : a = 2
      ·subst h2
       obtain rfl : k = 0 := by
        rcases Nat.eq_zero_or_pos k with h | h
        ·exact h
        ·exact absurd ⟨rfl, .inr rfl, by omega⟩ hok
       go_wp2_with (first
       | (go_at_call 47; refine (CL.out).mono ?_; rintro e x1 ⟨rfl, hb⟩; have S1 := Go.Lib.hid (ST.out.below hb); clear hb ST)
       | (have h := S1.out; go_at_call 82; (refine (CU1.out _ h.rd).mono ?_; rintro e x2 ⟨rfl, hr, ho⟩; have S2 := Go.Lib.hid (h.read (y := ⟨m1, false⟩) hr ho); clear h hr ho S1))
       | (have h := S2.out; go_at_call 82; (refine (CU2.out _ h.rd).mono ?_; rintro e x3 ⟨rfl, hr, ho⟩; have S3 := Go.Lib.hid (h.read (y := x) hr ho); clear h hr ho S2))
       | (have h := S3.out; go_at_call 118; (refine (CT.out _ h.n.1 h.rd).mono ?_; rintro e x4 ⟨At, ct, rfl, hU, hn, hr, ho⟩; have HAP := Go.Lib.hid (fresh_apart h.own h.n.1 hn); have S4 := Go.Lib.hid (h.read (y := ⟨y, false⟩) hr ho); have HU := Go.Lib.hid hU; clear h hr ho hU hn S3))
       | (have h := S4.out; go_at_call 44; (refine (bad_any _ _ _ _ _ _ _ h.rd).mono ?_; rintro e x5 ⟨rfl, hb⟩; have S5 := Go.Lib.hid (h.below hb); replace HU := Go.Lib.hid (HU.out.keep hb); clear h hb S4))
       | (have h := S5.out; obtain ⟨q, o1, o2, o3, o4⟩ := h.own; at_builtin; (refine wpList_append_row rfl (.tmp 34) (.tmp 38) rfl E N _ p.length (segCells p q) rfl (o1.alloc _) _ 1 [.int .i64 a, .slice At k ct] rfl (row_seg_at _ _ _ _ rfl) (ones_two _ _ _ _) (by unfold maxLen; omega) (by omega) (by have := h.n.1; simp; omega) (p.length + 1) rfl ?_; intro A2 c2 w2 hown2 hg2 hat2 hb2; have S6 := Go.Lib.hid (segs_push (l := ns) o2 o4 o3 HU.out HAP.out rfl hown2 hg2 hat2); have HB6 := Go.Lib.hid hb2; clear h o1 o2 o3 o4 hown2 hg2 hat2 hb2)))
       go_ret2
       refine ⟨S5.out.low, ?_⟩
       rw [HI.out.2.2, HN.out]
       rfl
      ·have d1 : ((a : Int) != 1) = true := by simp; omega
       have d2 : ((a : Int) != 2) = true := by simp; omega
       go_wp2_with (first
       | (go_at_call 47; refine (CL.out).mono ?_; rintro e x1 ⟨rfl, hb⟩; have S1 := Go.Lib.hid (ST.out.below hb); clear hb ST)
       | (have h := S1.out; go_at_call 82; (refine (CU1.out _ h.rd).mono ?_; rintro e x2 ⟨rfl, hr, ho⟩; have S2 := Go.Lib.hid (h.read (y := ⟨m1, false⟩) hr ho); clear h hr ho S1))
       | (have h := S2.out; go_at_call 82; (refine (CU2.out _ h.rd).mono ?_; rintro e x3 ⟨rfl, hr, ho⟩; have S3 := Go.Lib.hid (h.read (y := x) hr ho); clear h hr ho S2))
       | (have h := S3.out; go_at_call 118; (refine (CT.out _ h.n.1 h.rd).mono ?_; rintro e x4 ⟨At, ct, rfl, hU, hn, hr, ho⟩; have HAP := Go.Lib.hid (fresh_apart h.own h.n.1 hn); have S4 := Go.Lib.hid (h.read (y := ⟨y, false⟩) hr ho); have HU := Go.Lib.hid hU; clear h hr ho hU hn S3))
       | (have h := S4.out; go_at_call 44; (refine (bad_any _ _ _ _ _ _ _ h.rd).mono ?_; rintro e x5 ⟨rfl, hb⟩; have S5 := Go.Lib.hid (h.below hb); replace HU := Go.Lib.hid (HU.out.keep hb); clear h hb S4))
       | (have h := S5.out; obtain ⟨q, o1, o2, o3, o4⟩ := h.own; at_builtin; (refine wpList_append_row rfl (.tmp 34) (.tmp 38) rfl E N _ p.length (segCells p q) rfl (o1.alloc _) _ 1 [.int .i64 a, .slice At k ct] rfl (row_seg_at _ _ _ _ rfl) (ones_two _ _ _ _) (by unfold maxLen; omega) (by omega) (by have := h.n.1; simp; omega) (p.length + 1) rfl ?_; intro A2 c2 w2 hown2 hg2 hat2 hb2; have S6 := Go.Lib.hid (segs_push (l := ns) o2 o4 o3 HU.out HAP.out rfl hown2 hg2 hat2); have HB6 := Go.Lib.hid hb2; clear h o1 o2 o3 o4 hown2 hg2 hat2 hb2)))
       go_ret2
       refine ⟨S5.out.low, ?_⟩
       rw [HI.out.2.2, HN.out]
       rfl
end Go.Proofs.YtlhdjdnflpilbaaGreatDoor.Att
namespace Go.Proofs.YtlhdjdnflpilbaaGreatDoor.Att
open Go.RowKit Mem Segm Oct Seg
theorem only_new {G F : Nat → Prop} {w W W2 : World} (h : Only G w W) (k : Only F W W2) (hF : ∀ q, F q → w.heap.size ≤ q) : Only G w W2 :=
 ⟨k.os.trans h.os, k.tape.trans h.tape, k.output.trans h.output, Nat.le_trans h.size k.size, fun j hj hg => (k.block j (Nat.lt_of_lt_of_le hj h.size) (fun hf => by have := hF j hf; omega)).trans (h.block j hj hg)⟩
theorem R.apart {W W' : World} {base n B : Nat} {v : Value} {l : List Nat} {bad : Bool} {F : Nat → Prop} (h : R W base n v l bad F) (hB : ∀ i n, W.cell? ⟨B, i, none⟩ ≠ some (.int .u8 n)) (hb : B < base) (hk : ∀ k, k ≠ B → W'.heap[k]? = W.heap[k]?) (hs : W.heap.size ≤ W'.heap.size) : R W' base n v l bad F := by
 rcases h with h | ⟨b, s, h1, h2, h3, h4, h5, h6, h7, h8⟩
 ·exact .inl h
 ·exact .inr ⟨b, s, h1, h2, h3, Nat.le_trans h4 hs, (hk b (by omega)).trans h5, u8_apart h6 hB hk hs, h7, h8⟩
theorem Box9.no8 {W : World} {B : Nat} {t : TypeId} {y0 y1 y2 y3 y4 y5 y6 y7 y8 : Value} (h : Box9 W B t y0 y1 y2 y3 y4 y5 y6 y7 y8) (hy : ∀ u ∈ [y0, y1, y2, y3, y4, y5, y6, y7, y8], No8 u) (i : Nat) (n : Int) : W.cell? ⟨B, i, none⟩ ≠ some (.int .u8 n) :=
 no8_cells h.blk (fun u hu => hy u (by simpa using hu)) i n
structure FiSt (w0 : World) (B : Nat) (y0 y1 y2 y3 y4 y5 y6 y7 y8 z0 z1 z2 : Value) (b N : Nat) (x : Rd) (W : World) : Prop where
 b9 : Box9 W B 27 y0 y1 y2 y3 y4 y5 y6 y7 y8
 n8 : ∀ u ∈ [y0, y1, y2, y3, y4, y5, y6, y7, y8], No8 u
 b3 : Box3 W w0.heap.size 90 z0 z1 z2
 rd : R W (w0.heap.size + 1) N (.pointer (some ⟨b, 0, none⟩)) x.l x.b (fun q => q = b)
 on : Only (fun q => q = B) w0 W
 lt : B < w0.heap.size
section
variable {w0 W W2 : World} {B b N : Nat} {y0 y1 y2 y3 y4 y5 y6 y7 y8 z0 z1 z2 u : Value} {x y : Rd}
theorem FiSt.below (h : FiSt w0 B y0 y1 y2 y3 y4 y5 y6 y7 y8 z0 z1 z2 b N x W) (hb : Below W.heap.size W W2) : FiSt w0 B y0 y1 y2 y3 y4 y5 y6 y7 y8 z0 z1 z2 b N x W2 :=
 ⟨h.b9.keep hb, h.n8, h.b3.keep hb, h.rd.below hb, h.on.trans (Only.of hb), h.lt⟩
theorem FiSt.read (h : FiSt w0 B y0 y1 y2 y3 y4 y5 y6 y7 y8 z0 z1 z2 b N x W) (hr : R W2 (w0.heap.size + 1) N (.pointer (some ⟨b, 0, none⟩)) y.l y.b (fun q => q = b)) (ho : Only (fun q => q = b) W W2) : FiSt w0 B y0 y1 y2 y3 y4 y5 y6 y7 y8 z0 z1 z2 b N y W2 := by
 have hb := h.rd.low b rfl
 have hB := h.lt
 exact ⟨⟨(ho.block B h.b9.lt (by omega)).trans h.b9.blk⟩, h.n8, ⟨(ho.block w0.heap.size h.b3.lt (by omega)).trans h.b3.blk⟩, hr, only_new h.on ho (fun q e => by subst e; omega), h.lt⟩
theorem fi_new {xf xk xv : Value} (h : Box9 w0 B 27 y0 y1 y2 y3 y4 y5 y6 y7 y8) (n8 : ∀ u ∈ [y0, y1, y2, y3, y4, y5, y6, y7, y8], No8 u)
  (hR : R W (w0.alloc (.cells #[xf, xk, xv] 90)).heap.size N (.pointer (some ⟨b, 0, none⟩)) x.l x.b (fun q => q = b)) (hb : Below (w0.alloc (.cells #[xf, xk, xv] 90)).heap.size (w0.alloc (.cells #[xf, xk, xv] 90)) W) :
  FiSt w0 B y0 y1 y2 y3 y4 y5 y6 y7 y8 xf xk xv b N x W := by
 have e1 : (w0.alloc (.cells #[xf, xk, xv] 90)).heap.size = w0.heap.size + 1 := by simp
 have k1 : Below w0.heap.size w0 (w0.alloc (.cells #[xf, xk, xv] 90)) := (Below.refl _ _).alloc (Nat.le_refl _) _
 rw [e1] at hR
 exact ⟨(h.keep k1).keep hb, n8, (Box3.new _ _ _ _ _).keep hb, hR, (Only.of k1).trans (Only.of hb), h.lt⟩
theorem FiSt.far (h : FiSt w0 B y0 y1 y2 y3 y4 y5 y6 y7 y8 z0 z1 z2 b N x W) (i : Nat) (u : Value) : Box3 (W.setCell ⟨B, i, none⟩ u) w0.heap.size 90 z0 z1 z2 ∧ R (W.setCell ⟨B, i, none⟩ u) (w0.heap.size + 1) N (.pointer (some ⟨b, 0, none⟩)) x.l x.b (fun q => q = b) ∧ Only (fun q => q = B) w0 (W.setCell ⟨B, i, none⟩ u) := by
 have hB := h.lt
 exact ⟨h.b3.far (by omega) u, R.apart h.rd (h.b9.no8 h.n8) (by omega) (fun k hk => Go.RowKit.Below.heap_setCell _ _ _ _ hk) (by simp), h.on.set rfl u⟩
theorem FiSt.set0 (h : FiSt w0 B y0 y1 y2 y3 y4 y5 y6 y7 y8 z0 z1 z2 b N x W) (u : Value) (hu : No8 u) : FiSt w0 B u y1 y2 y3 y4 y5 y6 y7 y8 z0 z1 z2 b N x (W.setCell ⟨B, 0, none⟩ u) :=
 ⟨h.b9.set0 u, fun v hv => by have := h.n8 v; simp only [List.mem_cons, List.not_mem_nil, or_false] at hv this; (rcases hv with rfl | rfl | rfl | rfl | rfl | rfl | rfl | rfl | rfl) <;> first | exact hu | exact this (by simp), (h.far 0 u).1, (h.far 0 u).2.1, (h.far 0 u).2.2, h.lt⟩
theorem FiSt.set1 (h : FiSt w0 B y0 y1 y2 y3 y4 y5 y6 y7 y8 z0 z1 z2 b N x W) (u : Value) (hu : No8 u) : FiSt w0 B y0 u y2 y3 y4 y5 y6 y7 y8 z0 z1 z2 b N x (W.setCell ⟨B, 1, none⟩ u) :=
 ⟨h.b9.set1 u, fun v hv => by have := h.n8 v; simp only [List.mem_cons, List.not_mem_nil, or_false] at hv this; (rcases hv with rfl | rfl | rfl | rfl | rfl | rfl | rfl | rfl | rfl) <;> first | exact hu | exact this (by simp), (h.far 1 u).1, (h.far 1 u).2.1, (h.far 1 u).2.2, h.lt⟩
theorem FiSt.set2 (h : FiSt w0 B y0 y1 y2 y3 y4 y5 y6 y7 y8 z0 z1 z2 b N x W) (u : Value) (hu : No8 u) : FiSt w0 B y0 y1 u y3 y4 y5 y6 y7 y8 z0 z1 z2 b N x (W.setCell ⟨B, 2, none⟩ u) :=
 ⟨h.b9.set2 u, fun v hv => by have := h.n8 v; simp only [List.mem_cons, List.not_mem_nil, or_false] at hv this; (rcases hv with rfl | rfl | rfl | rfl | rfl | rfl | rfl | rfl | rfl) <;> first | exact hu | exact this (by simp), (h.far 2 u).1, (h.far 2 u).2.1, (h.far 2 u).2.2, h.lt⟩
theorem FiSt.set3 (h : FiSt w0 B y0 y1 y2 y3 y4 y5 y6 y7 y8 z0 z1 z2 b N x W) (u : Value) (hu : No8 u) : FiSt w0 B y0 y1 y2 u y4 y5 y6 y7 y8 z0 z1 z2 b N x (W.setCell ⟨B, 3, none⟩ u) :=
 ⟨h.b9.set3 u, fun v hv => by have := h.n8 v; simp only [List.mem_cons, List.not_mem_nil, or_false] at hv this; (rcases hv with rfl | rfl | rfl | rfl | rfl | rfl | rfl | rfl | rfl) <;> first | exact hu | exact this (by simp), (h.far 3 u).1, (h.far 3 u).2.1, (h.far 3 u).2.2, h.lt⟩
theorem FiSt.set4 (h : FiSt w0 B y0 y1 y2 y3 y4 y5 y6 y7 y8 z0 z1 z2 b N x W) (u : Value) (hu : No8 u) : FiSt w0 B y0 y1 y2 y3 u y5 y6 y7 y8 z0 z1 z2 b N x (W.setCell ⟨B, 4, none⟩ u) :=
 ⟨h.b9.set4 u, fun v hv => by have := h.n8 v; simp only [List.mem_cons, List.not_mem_nil, or_false] at hv this; (rcases hv with rfl | rfl | rfl | rfl | rfl | rfl | rfl | rfl | rfl) <;> first | exact hu | exact this (by simp), (h.far 4 u).1, (h.far 4 u).2.1, (h.far 4 u).2.2, h.lt⟩
theorem FiSt.set5 (h : FiSt w0 B y0 y1 y2 y3 y4 y5 y6 y7 y8 z0 z1 z2 b N x W) (u : Value) (hu : No8 u) : FiSt w0 B y0 y1 y2 y3 y4 u y6 y7 y8 z0 z1 z2 b N x (W.setCell ⟨B, 5, none⟩ u) :=
 ⟨h.b9.set5 u, fun v hv => by have := h.n8 v; simp only [List.mem_cons, List.not_mem_nil, or_false] at hv this; (rcases hv with rfl | rfl | rfl | rfl | rfl | rfl | rfl | rfl | rfl) <;> first | exact hu | exact this (by simp), (h.far 5 u).1, (h.far 5 u).2.1, (h.far 5 u).2.2, h.lt⟩
theorem FiSt.set6 (h : FiSt w0 B y0 y1 y2 y3 y4 y5 y6 y7 y8 z0 z1 z2 b N x W) (u : Value) (hu : No8 u) : FiSt w0 B y0 y1 y2 y3 y4 y5 u y7 y8 z0 z1 z2 b N x (W.setCell ⟨B, 6, none⟩ u) :=
 ⟨h.b9.set6 u, fun v hv => by have := h.n8 v; simp only [List.mem_cons, List.not_mem_nil, or_false] at hv this; (rcases hv with rfl | rfl | rfl | rfl | rfl | rfl | rfl | rfl | rfl) <;> first | exact hu | exact this (by simp), (h.far 6 u).1, (h.far 6 u).2.1, (h.far 6 u).2.2, h.lt⟩
theorem FiSt.set7 (h : FiSt w0 B y0 y1 y2 y3 y4 y5 y6 y7 y8 z0 z1 z2 b N x W) (u : Value) (hu : No8 u) : FiSt w0 B y0 y1 y2 y3 y4 y5 y6 u y8 z0 z1 z2 b N x (W.setCell ⟨B, 7, none⟩ u) :=
 ⟨h.b9.set7 u, fun v hv => by have := h.n8 v; simp only [List.mem_cons, List.not_mem_nil, or_false] at hv this; (rcases hv with rfl | rfl | rfl | rfl | rfl | rfl | rfl | rfl | rfl) <;> first | exact hu | exact this (by simp), (h.far 7 u).1, (h.far 7 u).2.1, (h.far 7 u).2.2, h.lt⟩
theorem FiSt.set8 (h : FiSt w0 B y0 y1 y2 y3 y4 y5 y6 y7 y8 z0 z1 z2 b N x W) (u : Value) (hu : No8 u) : FiSt w0 B y0 y1 y2 y3 y4 y5 y6 y7 u z0 z1 z2 b N x (W.setCell ⟨B, 8, none⟩ u) :=
 ⟨h.b9.set8 u, fun v hv => by have := h.n8 v; simp only [List.mem_cons, List.not_mem_nil, or_false] at hv this; (rcases hv with rfl | rfl | rfl | rfl | rfl | rfl | rfl | rfl | rfl) <;> first | exact hu | exact this (by simp), (h.far 8 u).1, (h.far 8 u).2.1, (h.far 8 u).2.2, h.lt⟩
end
end Go.Proofs.YtlhdjdnflpilbaaGreatDoor.Att
