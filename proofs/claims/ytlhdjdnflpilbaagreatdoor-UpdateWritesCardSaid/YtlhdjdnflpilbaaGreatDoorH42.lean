/- The program's fill: an attribute's value, laid among the others. The program's fill: a path, communities; all types together. The program's read: an attribute off its item, unless it is to be skipped, or what is wrong of it. Plain mathematics: what bytes tell, attribute by attribute. It speaks of no function of the program. -/
import Derived.Test.YtlhdjdnflpilbaaGreatDoorH41
import Derived.Test.YtlhdjdnflpilbaaGreatDoorH18
import Derived.Test.YtlhdjdnflpilbaaGreatDoorH22
import Derived.Test.YtlhdjdnflpilbaaGreatDoorH40
namespace Go.Proofs.YtlhdjdnflpilbaaGreatDoor.Att
open Go.RowKit Mem Segm Oct Seg
structure BoxA (W : World) (B N : Nat) (a : At) : Prop where
 ok : a.ok
 lt : B < N ∧ N ≤ W.heap.size
 box : ∃ Ap np cp Ac nc cc, Box9 W B 27 (.int .i64 a.has) (.int .i64 a.origin) (.slice Ap np cp) (.int .u32 a.hop) (.int .u32 a.med) (.int .u32 a.pref) (.int .u32 a.aas) (.int .u32 a.aid) (.slice Ac nc cc) ∧ OwnSegsF 117 N N W (.slice Ap np cp) a.path ∧ U32s W (.slice Ac nc cc) a.comms ∧ NewAt N (.slice Ac nc cc)
theorem u32_on {F : Nat → Prop} {W W' : World} {n : Nat} {v : Value} {l : List Nat} (h : U32s W v l) (hn : NewAt n v) (ho : Only F W W') (hF : ∀ k, F k → k < n) : U32s W' v l := by
 obtain ⟨⟨hl, A, c, rfl, hm, hc, hr⟩, hsm⟩ := h
 refine ⟨⟨hl, A, c, rfl, hm, hc, fun h0 => ?_⟩, hsm⟩
 obtain ⟨b, off, rfl, hlt, hcell⟩ := hr h0
 have hb := hn b off _ c rfl h0
 have hs := ho.block b hlt (fun hf => by have := hF b hf; omega)
 exact ⟨b, off, rfl, Nat.lt_of_lt_of_le hlt ho.size, fun i y hy => by rw [← hcell i y hy]; exact World.cell?_of_block hs⟩
theorem BoxA.on {F : Nat → Prop} {W W' : World} {B N : Nat} {a : At} (h : BoxA W B N a) (ho : Only F W W') (hF : ∀ k, F k → k < N ∧ k ≠ B) : BoxA W' B N a := by
 obtain ⟨h1, h2, Ap, np, cp, Ac, nc, cc, h3, h4, h5, h6⟩ := h
 exact ⟨h1, ⟨h2.1, Nat.le_trans h2.2 ho.size⟩, Ap, np, cp, Ac, nc, cc, ⟨(ho.block B h3.lt (fun hf => (hF B hf).2 rfl)).trans h3.blk⟩, segs_on h4 ho (fun k hk => (hF k hk).1), u32_on h5 h6 ho (fun k hk => (hF k hk).1), h6⟩
theorem BoxA.below {W W' : World} {B N : Nat} {a : At} (h : BoxA W B N a) (hb : Below W.heap.size W W') : BoxA W' B N a := h.on (F := fun _ => False) (Only.of hb) (fun _ hk => hk.elim)
def fillN (k : Nat) (v : List Nat) : Nat :=
 if k = 1 then (if 2 < val v then 6 else 0)
 else if k = 2 then (match pathIs v with | some p => if goodP (normS p) && decide (lens p ≤ 2000) then 0 else 11 | none => 11)
 else if k = 3 then (if hopB (val v) then 0 else 8)
 else 0
def fillA (a : At) (k : Nat) (v : List Nat) : At :=
 ⟨a.has, if k = 1 then (val v : Nat) else a.origin, if k = 2 then (pathIs v).getD [] else a.path, if k = 3 then val v else a.hop, if k = 4 then val v else a.med, if k = 5 then val v else a.pref,
  if k = 7 then val (v.take 4) else a.aas, if k = 7 then val (v.drop 4) else a.aid, if k = 8 then quads v else a.comms⟩
def FillF (B N : Nat) (a : At) (k : Nat) (v : List Nat) (w : World) (e : Ending) (w' : World) : Prop :=
 e = .returned (.int .i64 (fillN k v : Nat)) ∧ Only (fun q => q = B) w w' ∧ (fillN k v = 0 → BoxA w' B N (fillA a k v))
theorem num_all {v : List Nat} {k : Nat} (h : v.length = k) : (Rd.mk v false).num (k : Nat) = val v := by
 have hf := (fit_go (l := v) (n := k) (by omega)).2
 unfold Rd.num
 rw [hf, ← h, List.take_length]
theorem n9 {h o : Int} {hp md pr ag ai np cp nc cc : Nat} {Ap Ac : Option Addr} : ∀ u ∈ [Value.int .i64 h, .int .i64 o, .slice Ap np cp, .int .u32 hp, .int .u32 md, .int .u32 pr, .int .u32 ag, .int .u32 ai, .slice Ac nc cc], No8 u := fun u hu => by
 simp only [List.mem_cons, List.not_mem_nil, or_false] at hu
 rcases hu with rfl | rfl | rfl | rfl | rfl | rfl | rfl | rfl | rfl
 ·exact no8_i _
 ·exact no8_i _
 ·exact no8_s _ _ _
 ·exact no8_u _
 ·exact no8_u _
 ·exact no8_u _
 ·exact no8_u _
 ·exact no8_u _
 ·exact no8_s _ _ _
theorem val32 {v : List Nat} (hs : Small v) (h : v.length ≤ 4) : val v < 4294967296 := by
 have h1 := val_lt 4 hs
 rw [List.take_of_length_le h] at h1
 exact h1
set_option maxRecDepth 100000 in
set_option maxHeartbeats 4000000 in
theorem fill4 (f : Int) (A : Option Addr) (c : Nat) (v : List Nat) (w : World) (B N : Nat) (a : At) (hA : BoxA w B N a) (hv : U8s w (.slice A v.length c) v) (hl : v.length = 4) :
  Calls Tryz.prog 108 #[.agg #[.int .i64 f, .int .i64 4, .slice A v.length c], .pointer (some ⟨B, 0, none⟩)] w (FillF B N a 4 v w) := by
 obtain ⟨hok, hlt, Ap, np, cp, Ac, nc, cc, h9, hp, hc, hn⟩ := hA
 have hb1 : Below w.heap.size w (w.alloc (.cells #[.int .i64 f, .int .i64 4, .slice A v.length c] 90)) := (Below.refl _ _).alloc (Nat.le_refl _) _
 have CN := Go.Lib.hid (new_any _ v _ (hv.keep hb1) (by omega))
 have HS := Go.Lib.hid hv.2
 have HOK := Go.Lib.hid hok
 have HP := Go.Lib.hid hp
 have HC := Go.Lib.hid (And.intro hc hn)
 have H9 := Go.Lib.hid h9
 have q3 := Box3.new w 90 (.int .i64 f) (.int .i64 4) (.slice A v.length c)
 obtain ⟨d0, d1, d2⟩ := q3.cells
 obtain ⟨hh, ho, hpt, hh3, hh4, hh5, hh6, hh7, hh8⟩ := a
 dsimp only at hp h9 hc hok HP HC H9 HOK
 clear hv hb1 hp hc hn h9 hok q3
 have HV := Go.Lib.hid (val32 HS.out (by omega))
 have CU := Go.Lib.hid (fun (b N : Nat) (W : World) (h : R W (w.heap.size + 1) N (.pointer (some ⟨b, 0, none⟩)) v false (fun q => q = b)) => show Calls Tryz.prog 117 #[.pointer (some ⟨b, 0, none⟩)] W (fun e w' => e = .returned (.int .u32 (val v : Nat)) ∧ R w' (w.heap.size + 1) N (.pointer (some ⟨b, 0, none⟩)) ((Rd.mk v false).go 4).l ((Rd.mk v false).go 4).b (fun q => q = b) ∧ Only (fun q => q = b) W w') from by
  rw [← num_all hl]
  exact u32_any _ _ _ v false _ W HS.out h)
 clear hl
 go_enter Tryz.func108, Tryz.ntmps108
 go_wp2_with (first
  | (go_at_call 40; (refine (CN.out).mono ?_; rintro e x ⟨b, rfl, hR, hb⟩; have S1 := Go.Lib.hid (fi_new (x := ⟨v, false⟩) H9.out n9 hR hb); clear hR hb d0 d1 d2; obtain ⟨d0, d1, d2⟩ := S1.out.b3.cells; obtain ⟨c0, c1, c2, c3, c4, c5, c6, c7, c8⟩ := S1.out.b9.cells; have fB := S1.out.b9.free))
  | (have h := S1.out; go_at_call 117; (refine ((Go.Lib.hid (CU.out _ _)).out _ h.rd).mono ?_; rintro e x ⟨rfl, hR, ho⟩; have S2 := Go.Lib.hid (h.read hR ho); clear hR ho h S1; clear d0 d1 d2 c0 c1 c2 c3 c4 c5 c6 c7 c8 fB; obtain ⟨d0, d1, d2⟩ := S2.out.b3.cells; obtain ⟨c0, c1, c2, c3, c4, c5, c6, c7, c8⟩ := S2.out.b9.cells; have fB := S2.out.b9.free; have S3 := Go.Lib.hid (S2.out.set4 (.int .u32 (val v : Nat)) (no8_u _)))))
 go_ret
 refine ⟨rfl, S3.out.on, fun _ => ?_⟩
 exact ⟨⟨HOK.out.1, HOK.out.2.1, HOK.out.2.2.1, HV.out, HOK.out.2.2.2.2⟩, ⟨hlt.1, Nat.le_trans hlt.2 S3.out.on.size⟩, Ap, np, cp, Ac, nc, cc, S3.out.b9, segs_on HP.out S3.out.on (fun k e => by subst e; exact hlt.1), u32_on HC.out.1 HC.out.2 S3.out.on (fun k e => by subst e; exact hlt.1), HC.out.2⟩
set_option maxRecDepth 100000 in
set_option maxHeartbeats 4000000 in
theorem fill5 (f : Int) (A : Option Addr) (c : Nat) (v : List Nat) (w : World) (B N : Nat) (a : At) (hA : BoxA w B N a) (hv : U8s w (.slice A v.length c) v) (hl : v.length = 4) :
  Calls Tryz.prog 108 #[.agg #[.int .i64 f, .int .i64 5, .slice A v.length c], .pointer (some ⟨B, 0, none⟩)] w (FillF B N a 5 v w) := by
 obtain ⟨hok, hlt, Ap, np, cp, Ac, nc, cc, h9, hp, hc, hn⟩ := hA
 have hb1 : Below w.heap.size w (w.alloc (.cells #[.int .i64 f, .int .i64 5, .slice A v.length c] 90)) := (Below.refl _ _).alloc (Nat.le_refl _) _
 have CN := Go.Lib.hid (new_any _ v _ (hv.keep hb1) (by omega))
 have HS := Go.Lib.hid hv.2
 have HOK := Go.Lib.hid hok
 have HP := Go.Lib.hid hp
 have HC := Go.Lib.hid (And.intro hc hn)
 have H9 := Go.Lib.hid h9
 have q3 := Box3.new w 90 (.int .i64 f) (.int .i64 5) (.slice A v.length c)
 obtain ⟨d0, d1, d2⟩ := q3.cells
 obtain ⟨hh, ho, hpt, hh3, hh4, hh5, hh6, hh7, hh8⟩ := a
 dsimp only at hp h9 hc hok HP HC H9 HOK
 clear hv hb1 hp hc hn h9 hok q3
 have HV := Go.Lib.hid (val32 HS.out (by omega))
 have CU := Go.Lib.hid (fun (b N : Nat) (W : World) (h : R W (w.heap.size + 1) N (.pointer (some ⟨b, 0, none⟩)) v false (fun q => q = b)) => show Calls Tryz.prog 117 #[.pointer (some ⟨b, 0, none⟩)] W (fun e w' => e = .returned (.int .u32 (val v : Nat)) ∧ R w' (w.heap.size + 1) N (.pointer (some ⟨b, 0, none⟩)) ((Rd.mk v false).go 4).l ((Rd.mk v false).go 4).b (fun q => q = b) ∧ Only (fun q => q = b) W w') from by
  rw [← num_all hl]
  exact u32_any _ _ _ v false _ W HS.out h)
 clear hl
 go_enter Tryz.func108, Tryz.ntmps108
 go_wp2_with (first
  | (go_at_call 40; (refine (CN.out).mono ?_; rintro e x ⟨b, rfl, hR, hb⟩; have S1 := Go.Lib.hid (fi_new (x := ⟨v, false⟩) H9.out n9 hR hb); clear hR hb d0 d1 d2; obtain ⟨d0, d1, d2⟩ := S1.out.b3.cells; obtain ⟨c0, c1, c2, c3, c4, c5, c6, c7, c8⟩ := S1.out.b9.cells; have fB := S1.out.b9.free))
  | (have h := S1.out; go_at_call 117; (refine ((Go.Lib.hid (CU.out _ _)).out _ h.rd).mono ?_; rintro e x ⟨rfl, hR, ho⟩; have S2 := Go.Lib.hid (h.read hR ho); clear hR ho h S1; clear d0 d1 d2 c0 c1 c2 c3 c4 c5 c6 c7 c8 fB; obtain ⟨d0, d1, d2⟩ := S2.out.b3.cells; obtain ⟨c0, c1, c2, c3, c4, c5, c6, c7, c8⟩ := S2.out.b9.cells; have fB := S2.out.b9.free; have S3 := Go.Lib.hid (S2.out.set5 (.int .u32 (val v : Nat)) (no8_u _)))))
 go_ret
 refine ⟨rfl, S3.out.on, fun _ => ?_⟩
 exact ⟨⟨HOK.out.1, HOK.out.2.1, HOK.out.2.2.1, HOK.out.2.2.2.1, HV.out, HOK.out.2.2.2.2.2⟩, ⟨hlt.1, Nat.le_trans hlt.2 S3.out.on.size⟩, Ap, np, cp, Ac, nc, cc, S3.out.b9, segs_on HP.out S3.out.on (fun k e => by subst e; exact hlt.1), u32_on HC.out.1 HC.out.2 S3.out.on (fun k e => by subst e; exact hlt.1), HC.out.2⟩
set_option maxRecDepth 100000 in
set_option maxHeartbeats 4000000 in
theorem fill1 (f : Int) (A : Option Addr) (c : Nat) (v : List Nat) (w : World) (B N : Nat) (a : At) (hA : BoxA w B N a) (hv : U8s w (.slice A v.length c) v) (hl : v.length = 1) :
  Calls Tryz.prog 108 #[.agg #[.int .i64 f, .int .i64 1, .slice A v.length c], .pointer (some ⟨B, 0, none⟩)] w (FillF B N a 1 v w) := by
 obtain ⟨hok, hlt, Ap, np, cp, Ac, nc, cc, h9, hp, hc, hn⟩ := hA
 have hb1 : Below w.heap.size w (w.alloc (.cells #[.int .i64 f, .int .i64 1, .slice A v.length c] 90)) := (Below.refl _ _).alloc (Nat.le_refl _) _
 have CN := Go.Lib.hid (new_any _ v _ (hv.keep hb1) (by omega))
 have HS := Go.Lib.hid hv.2
 have HOK := Go.Lib.hid hok
 have HP := Go.Lib.hid hp
 have HC := Go.Lib.hid (And.intro hc hn)
 have H9 := Go.Lib.hid h9
 have q3 := Box3.new w 90 (.int .i64 f) (.int .i64 1) (.slice A v.length c)
 obtain ⟨d0, d1, d2⟩ := q3.cells
 obtain ⟨hh, ho, hpt, hh3, hh4, hh5, hh6, hh7, hh8⟩ := a
 dsimp only at hp h9 hc hok HP HC H9 HOK
 clear hv hb1 hp hc hn h9 hok q3
 have CU := Go.Lib.hid (fun (b N : Nat) (W : World) (h : R W (w.heap.size + 1) N (.pointer (some ⟨b, 0, none⟩)) v false (fun q => q = b)) => show Calls Tryz.prog 82 #[.pointer (some ⟨b, 0, none⟩)] W (fun e w' => e = .returned (.int .i64 (val v : Nat)) ∧ R w' (w.heap.size + 1) N (.pointer (some ⟨b, 0, none⟩)) ((Rd.mk v false).go 1).l ((Rd.mk v false).go 1).b (fun q => q = b) ∧ Only (fun q => q = b) W w') from by
  rw [← num_all hl]
  exact u8_any _ _ _ v false _ W HS.out h)
 have HV := Go.Lib.hid (show (Lit.int .i64 ((val v : Nat) : Int)).wf = true by
  have := val32 HS.out (by omega)
  simp [Lit.wf, IntKind.min, IntKind.max, IntKind.signed, IntKind.bits]; omega)
 clear hl
 by_cases h2 : 2 < val v
 ·have z1 : ((val v : Nat) : Int) > 2 := by omega
  have HE := Go.Lib.hid (show fillN 1 v = 6 by simp [fillN, h2])
  clear h2
  unfold FillF
  rw [HE.out]
  go_enter Tryz.func108, Tryz.ntmps108
  go_wp2_with (first
   | (go_at_call 40; (refine (CN.out).mono ?_; rintro e x ⟨b, rfl, hR, hb⟩; have S1 := Go.Lib.hid (fi_new (x := ⟨v, false⟩) H9.out n9 hR hb); clear hR hb d0 d1 d2; obtain ⟨d0, d1, d2⟩ := S1.out.b3.cells; obtain ⟨c0, c1, c2, c3, c4, c5, c6, c7, c8⟩ := S1.out.b9.cells; have fB := S1.out.b9.free))
   | (have h := S1.out; go_at_call 82; (refine ((Go.Lib.hid (CU.out _ _)).out _ h.rd).mono ?_; rintro e x ⟨rfl, hR, ho⟩; have S2 := Go.Lib.hid (h.read hR ho); clear hR ho h S1; clear d0 d1 d2 c0 c1 c2 c3 c4 c5 c6 c7 c8 fB; obtain ⟨d0, d1, d2⟩ := S2.out.b3.cells; obtain ⟨c0, c1, c2, c3, c4, c5, c6, c7, c8⟩ := S2.out.b9.cells; have fB := S2.out.b9.free; have S3 := Go.Lib.hid (S2.out.set1 (.int .i64 (val v : Nat)) (no8_i _)); obtain ⟨e0, e1, e2, e3, e4, e5, e6, e7, e8⟩ := S3.out.b9.cells)))
  go_ret
  refine ⟨rfl, S3.out.on, fun hz => ?_⟩
  cases hz
 ·have z1 : decide ((2 : Int) < (val v : Nat)) = false := decide_eq_false (by omega)
  have HE := Go.Lib.hid (show fillN 1 v = 0 by simp [fillN, h2])
  clear h2
  unfold FillF
  rw [HE.out]
  go_enter Tryz.func108, Tryz.ntmps108
  go_wp2_with (first
   | (go_at_call 40; (refine (CN.out).mono ?_; rintro e x ⟨b, rfl, hR, hb⟩; have S1 := Go.Lib.hid (fi_new (x := ⟨v, false⟩) H9.out n9 hR hb); clear hR hb d0 d1 d2; obtain ⟨d0, d1, d2⟩ := S1.out.b3.cells; obtain ⟨c0, c1, c2, c3, c4, c5, c6, c7, c8⟩ := S1.out.b9.cells; have fB := S1.out.b9.free))
   | (have h := S1.out; go_at_call 82; (refine ((Go.Lib.hid (CU.out _ _)).out _ h.rd).mono ?_; rintro e x ⟨rfl, hR, ho⟩; have S2 := Go.Lib.hid (h.read hR ho); clear hR ho h S1; clear d0 d1 d2 c0 c1 c2 c3 c4 c5 c6 c7 c8 fB; obtain ⟨d0, d1, d2⟩ := S2.out.b3.cells; obtain ⟨c0, c1, c2, c3, c4, c5, c6, c7, c8⟩ := S2.out.b9.cells; have fB := S2.out.b9.free; have S3 := Go.Lib.hid (S2.out.set1 (.int .i64 (val v : Nat)) (no8_i _)); obtain ⟨e0, e1, e2, e3, e4, e5, e6, e7, e8⟩ := S3.out.b9.cells)))
  go_ret
  refine ⟨rfl, S3.out.on, fun hz => ?_⟩
  exact ⟨⟨HOK.out.1, HV.out, HOK.out.2.2⟩, ⟨hlt.1, Nat.le_trans hlt.2 S3.out.on.size⟩, Ap, np, cp, Ac, nc, cc, S3.out.b9, segs_on HP.out S3.out.on (fun k e => by subst e; exact hlt.1), u32_on HC.out.1 HC.out.2 S3.out.on (fun k e => by subst e; exact hlt.1), HC.out.2⟩
set_option maxRecDepth 100000 in
set_option maxHeartbeats 4000000 in
theorem fill3 (f : Int) (A : Option Addr) (c : Nat) (v : List Nat) (w : World) (B N : Nat) (a : At) (hA : BoxA w B N a) (hv : U8s w (.slice A v.length c) v) (hl : v.length = 4) :
  Calls Tryz.prog 108 #[.agg #[.int .i64 f, .int .i64 3, .slice A v.length c], .pointer (some ⟨B, 0, none⟩)] w (FillF B N a 3 v w) := by
 obtain ⟨hok, hlt, Ap, np, cp, Ac, nc, cc, h9, hp, hc, hn⟩ := hA
 have hb1 : Below w.heap.size w (w.alloc (.cells #[.int .i64 f, .int .i64 3, .slice A v.length c] 90)) := (Below.refl _ _).alloc (Nat.le_refl _) _
 have CN := Go.Lib.hid (new_any _ v _ (hv.keep hb1) (by omega))
 have HS := Go.Lib.hid hv.2
 have HOK := Go.Lib.hid hok
 have HP := Go.Lib.hid hp
 have HC := Go.Lib.hid (And.intro hc hn)
 have H9 := Go.Lib.hid h9
 have q3 := Box3.new w 90 (.int .i64 f) (.int .i64 3) (.slice A v.length c)
 obtain ⟨d0, d1, d2⟩ := q3.cells
 obtain ⟨hh, ho, hpt, hh3, hh4, hh5, hh6, hh7, hh8⟩ := a
 dsimp only at hp h9 hc hok HP HC H9 HOK
 clear hv hb1 hp hc hn h9 hok q3
 have HV := Go.Lib.hid (val32 HS.out (by omega))
 have CU := Go.Lib.hid (fun (b N : Nat) (W : World) (h : R W (w.heap.size + 1) N (.pointer (some ⟨b, 0, none⟩)) v false (fun q => q = b)) => show Calls Tryz.prog 117 #[.pointer (some ⟨b, 0, none⟩)] W (fun e w' => e = .returned (.int .u32 (val v : Nat)) ∧ R w' (w.heap.size + 1) N (.pointer (some ⟨b, 0, none⟩)) ((Rd.mk v false).go 4).l ((Rd.mk v false).go 4).b (fun q => q = b) ∧ Only (fun q => q = b) W w') from by
  rw [← num_all hl]
  exact u32_any _ _ _ v false _ W HS.out h)
 have CH := Go.Lib.hid (fun W => hop_any (val v) W HV.out)
 clear hl
 cases hh2 : hopB (val v) with
 | false =>
  have HE := Go.Lib.hid (show fillN 3 v = 8 by simp [fillN, hh2])
  rw [hh2] at CH
  clear hh2
  unfold FillF
  rw [HE.out]
  go_enter Tryz.func108, Tryz.ntmps108
  go_wp2_with (first
   | (go_at_call 40; (refine (CN.out).mono ?_; rintro e x ⟨b, rfl, hR, hb⟩; have S1 := Go.Lib.hid (fi_new (x := ⟨v, false⟩) H9.out n9 hR hb); clear hR hb d0 d1 d2; obtain ⟨d0, d1, d2⟩ := S1.out.b3.cells; obtain ⟨c0, c1, c2, c3, c4, c5, c6, c7, c8⟩ := S1.out.b9.cells; have fB := S1.out.b9.free))
   | (have h := S1.out; go_at_call 117; (refine ((Go.Lib.hid (CU.out _ _)).out _ h.rd).mono ?_; rintro e x ⟨rfl, hR, ho⟩; have S2 := Go.Lib.hid (h.read hR ho); clear hR ho h S1; clear d0 d1 d2 c0 c1 c2 c3 c4 c5 c6 c7 c8 fB; obtain ⟨d0, d1, d2⟩ := S2.out.b3.cells; obtain ⟨c0, c1, c2, c3, c4, c5, c6, c7, c8⟩ := S2.out.b9.cells; have fB := S2.out.b9.free; have S3 := Go.Lib.hid (S2.out.set3 (.int .u32 (val v : Nat)) (no8_u _)); obtain ⟨e0, e1, e2, e3, e4, e5, e6, e7, e8⟩ := S3.out.b9.cells))
   | (go_at_call 71; (refine (CH.out _).mono ?_; rintro e x ⟨rfl, hb⟩; have S4 := Go.Lib.hid (S3.out.below hb); clear hb)))
  go_ret
  refine ⟨rfl, S4.out.on, fun hz => ?_⟩
  cases hz
 | true =>
  have HE := Go.Lib.hid (show fillN 3 v = 0 by simp [fillN, hh2])
  rw [hh2] at CH
  clear hh2
  unfold FillF
  rw [HE.out]
  go_enter Tryz.func108, Tryz.ntmps108
  go_wp2_with (first
   | (go_at_call 40; (refine (CN.out).mono ?_; rintro e x ⟨b, rfl, hR, hb⟩; have S1 := Go.Lib.hid (fi_new (x := ⟨v, false⟩) H9.out n9 hR hb); clear hR hb d0 d1 d2; obtain ⟨d0, d1, d2⟩ := S1.out.b3.cells; obtain ⟨c0, c1, c2, c3, c4, c5, c6, c7, c8⟩ := S1.out.b9.cells; have fB := S1.out.b9.free))
   | (have h := S1.out; go_at_call 117; (refine ((Go.Lib.hid (CU.out _ _)).out _ h.rd).mono ?_; rintro e x ⟨rfl, hR, ho⟩; have S2 := Go.Lib.hid (h.read hR ho); clear hR ho h S1; clear d0 d1 d2 c0 c1 c2 c3 c4 c5 c6 c7 c8 fB; obtain ⟨d0, d1, d2⟩ := S2.out.b3.cells; obtain ⟨c0, c1, c2, c3, c4, c5, c6, c7, c8⟩ := S2.out.b9.cells; have fB := S2.out.b9.free; have S3 := Go.Lib.hid (S2.out.set3 (.int .u32 (val v : Nat)) (no8_u _)); obtain ⟨e0, e1, e2, e3, e4, e5, e6, e7, e8⟩ := S3.out.b9.cells))
   | (go_at_call 71; (refine (CH.out _).mono ?_; rintro e x ⟨rfl, hb⟩; have S4 := Go.Lib.hid (S3.out.below hb); clear hb)))
  go_ret
  refine ⟨rfl, S4.out.on, fun hz => ?_⟩
  exact ⟨⟨HOK.out.1, HOK.out.2.1, HV.out, HOK.out.2.2.2⟩, ⟨hlt.1, Nat.le_trans hlt.2 S4.out.on.size⟩, Ap, np, cp, Ac, nc, cc, S4.out.b9, segs_on HP.out S4.out.on (fun k e => by subst e; exact hlt.1), u32_on HC.out.1 HC.out.2 S4.out.on (fun k e => by subst e; exact hlt.1), HC.out.2⟩
set_option maxRecDepth 100000 in
set_option maxHeartbeats 4000000 in
theorem fill6 (f : Int) (A : Option Addr) (c : Nat) (v : List Nat) (w : World) (B N : Nat) (a : At) (hA : BoxA w B N a) (hv : U8s w (.slice A v.length c) v) (hl : v.length = 0) :
  Calls Tryz.prog 108 #[.agg #[.int .i64 f, .int .i64 6, .slice A v.length c], .pointer (some ⟨B, 0, none⟩)] w (FillF B N a 6 v w) := by
 obtain ⟨hok, hlt, Ap, np, cp, Ac, nc, cc, h9, hp, hc, hn⟩ := hA
 have hb1 : Below w.heap.size w (w.alloc (.cells #[.int .i64 f, .int .i64 6, .slice A v.length c] 90)) := (Below.refl _ _).alloc (Nat.le_refl _) _
 have CN := Go.Lib.hid (new_any _ v _ (hv.keep hb1) (by omega))
 have HOK := Go.Lib.hid hok
 have HP := Go.Lib.hid hp
 have HC := Go.Lib.hid (And.intro hc hn)
 have H9 := Go.Lib.hid h9
 have q3 := Box3.new w 90 (.int .i64 f) (.int .i64 6) (.slice A v.length c)
 obtain ⟨d0, d1, d2⟩ := q3.cells
 obtain ⟨hh, ho, hpt, hh3, hh4, hh5, hh6, hh7, hh8⟩ := a
 dsimp only at hp h9 hc hok HP HC H9 HOK
 clear hv hb1 hp hc hn h9 hok q3
 clear hl
 go_enter Tryz.func108, Tryz.ntmps108
 go_wp2_with (go_at_call 40; (refine (CN.out).mono ?_; rintro e x ⟨b, rfl, hR, hb⟩; have S1 := Go.Lib.hid (fi_new (x := ⟨v, false⟩) H9.out n9 hR hb); clear hR hb d0 d1 d2; obtain ⟨d0, d1, d2⟩ := S1.out.b3.cells; obtain ⟨c0, c1, c2, c3, c4, c5, c6, c7, c8⟩ := S1.out.b9.cells; have fB := S1.out.b9.free))
 go_ret
 refine ⟨rfl, S1.out.on, fun _ => ?_⟩
 exact ⟨HOK.out, ⟨hlt.1, Nat.le_trans hlt.2 S1.out.on.size⟩, Ap, np, cp, Ac, nc, cc, S1.out.b9, segs_on HP.out S1.out.on (fun k e => by subst e; exact hlt.1), u32_on HC.out.1 HC.out.2 S1.out.on (fun k e => by subst e; exact hlt.1), HC.out.2⟩
set_option maxRecDepth 100000 in
set_option maxHeartbeats 4000000 in
theorem fill7 (f : Int) (A : Option Addr) (c : Nat) (v : List Nat) (w : World) (B N : Nat) (a : At) (hA : BoxA w B N a) (hv : U8s w (.slice A v.length c) v) (hl : v.length = 8) :
  Calls Tryz.prog 108 #[.agg #[.int .i64 f, .int .i64 7, .slice A v.length c], .pointer (some ⟨B, 0, none⟩)] w (FillF B N a 7 v w) := by
 obtain ⟨hok, hlt, Ap, np, cp, Ac, nc, cc, h9, hp, hc, hn⟩ := hA
 have hb1 : Below w.heap.size w (w.alloc (.cells #[.int .i64 f, .int .i64 7, .slice A v.length c] 90)) := (Below.refl _ _).alloc (Nat.le_refl _) _
 have CN := Go.Lib.hid (new_any _ v _ (hv.keep hb1) (by omega))
 have HS := Go.Lib.hid hv.2
 have HOK := Go.Lib.hid hok
 have HP := Go.Lib.hid hp
 have HC := Go.Lib.hid (And.intro hc hn)
 have H9 := Go.Lib.hid h9
 have q3 := Box3.new w 90 (.int .i64 f) (.int .i64 7) (.slice A v.length c)
 obtain ⟨d0, d1, d2⟩ := q3.cells
 obtain ⟨hh, ho, hpt, hh3, hh4, hh5, hh6, hh7, hh8⟩ := a
 dsimp only at hp h9 hc hok HP HC H9 HOK
 clear hv hb1 hp hc hn h9 hok q3
 have HV := Go.Lib.hid (val32 (HS.out.take 4) (List.length_take_le _ _))
 have HV2 := Go.Lib.hid (val32 (HS.out.drop 4) (by rw [List.length_drop]; omega))
 have CU := Go.Lib.hid (fun (b N : Nat) (W : World) (h : R W (w.heap.size + 1) N (.pointer (some ⟨b, 0, none⟩)) v false (fun q => q = b)) => show Calls Tryz.prog 117 #[.pointer (some ⟨b, 0, none⟩)] W (fun e w' => e = .returned (.int .u32 (val (v.take 4) : Nat)) ∧ R w' (w.heap.size + 1) N (.pointer (some ⟨b, 0, none⟩)) (Rd.mk (v.drop 4) false).l (Rd.mk (v.drop 4) false).b (fun q => q = b) ∧ Only (fun q => q = b) W w') from by
  have h1 := u32_any _ _ _ v false _ W HS.out h
  unfold NumF at h1
  have e1 := fit_go (l := v) (n := 4) (by omega)
  rw [show got v false 4 = v.take 4 from e1.2, show rest v false 4 = v.drop 4 from congrArg Rd.l e1.1, show fails v false 4 = false from congrArg Rd.b e1.1] at h1
  exact h1)
 have CV := Go.Lib.hid (fun (b N : Nat) (W : World) (h : R W (w.heap.size + 1) N (.pointer (some ⟨b, 0, none⟩)) (v.drop 4) false (fun q => q = b)) => show Calls Tryz.prog 117 #[.pointer (some ⟨b, 0, none⟩)] W (fun e w' => e = .returned (.int .u32 (val (v.drop 4) : Nat)) ∧ R w' (w.heap.size + 1) N (.pointer (some ⟨b, 0, none⟩)) ((Rd.mk (v.drop 4) false).go 4).l ((Rd.mk (v.drop 4) false).go 4).b (fun q => q = b) ∧ Only (fun q => q = b) W w') from by
  rw [← num_all (v := v.drop 4) (k := 4) (by rw [List.length_drop]; omega)]
  exact u32_any _ _ _ (v.drop 4) false _ W (HS.out.drop 4) h)
 clear hl
 go_enter Tryz.func108, Tryz.ntmps108
 go_wp2_with (first
  | (go_at_call 40; (refine (CN.out).mono ?_; rintro e x ⟨b, rfl, hR, hb⟩; have S1 := Go.Lib.hid (fi_new (x := ⟨v, false⟩) H9.out n9 hR hb); clear hR hb d0 d1 d2; obtain ⟨d0, d1, d2⟩ := S1.out.b3.cells; obtain ⟨c0, c1, c2, c3, c4, c5, c6, c7, c8⟩ := S1.out.b9.cells; have fB := S1.out.b9.free))
  | (have h := S1.out; go_at_call 117; (refine ((Go.Lib.hid (CU.out _ _)).out _ h.rd).mono ?_; rintro e x ⟨rfl, hR, ho⟩; have S2 := Go.Lib.hid (h.read (y := ⟨v.drop 4, false⟩) hR ho); clear hR ho h S1; clear d0 d1 d2 c0 c1 c2 c3 c4 c5 c6 c7 c8 fB; obtain ⟨d0, d1, d2⟩ := S2.out.b3.cells; obtain ⟨c0, c1, c2, c3, c4, c5, c6, c7, c8⟩ := S2.out.b9.cells; have fB := S2.out.b9.free; have S3 := Go.Lib.hid (S2.out.set6 (.int .u32 (val (v.take 4) : Nat)) (no8_u _)); clear S2; obtain ⟨e0, e1, e2, e3, e4, e5, e6, e7, e8⟩ := S3.out.b9.cells; have fE := S3.out.b9.free))
  | (have h := S3.out; go_at_call 117; (refine (CV.out _ _ _ h.rd).mono ?_; rintro e x ⟨rfl, hR, ho⟩; have S4 := Go.Lib.hid (h.read (y := (Rd.mk (v.drop 4) false).go 4) hR ho); clear hR ho h S3; clear d0 d1 d2 c0 c1 c2 c3 c4 c5 c6 c7 c8 fB e0 e1 e2 e3 e4 e5 e6 e7 e8 fE; obtain ⟨d0, d1, d2⟩ := S4.out.b3.cells; obtain ⟨c0, c1, c2, c3, c4, c5, c6, c7, c8⟩ := S4.out.b9.cells; have fB := S4.out.b9.free; have S5 := Go.Lib.hid (S4.out.set7 (.int .u32 (val (v.drop 4) : Nat)) (no8_u _)))))
 go_ret
 refine ⟨rfl, S5.out.on, fun _ => ?_⟩
 exact ⟨⟨HOK.out.1, HOK.out.2.1, HOK.out.2.2.1, HOK.out.2.2.2.1, HOK.out.2.2.2.2.1, HV.out, HV2.out⟩, ⟨hlt.1, Nat.le_trans hlt.2 S5.out.on.size⟩, Ap, np, cp, Ac, nc, cc, S5.out.b9, segs_on HP.out S5.out.on (fun k e => by subst e; exact hlt.1), u32_on HC.out.1 HC.out.2 S5.out.on (fun k e => by subst e; exact hlt.1), HC.out.2⟩
end Go.Proofs.YtlhdjdnflpilbaaGreatDoor.Att
namespace Go.Proofs.YtlhdjdnflpilbaaGreatDoor.Att
open Go.RowKit Mem Segm Oct Seg
theorem pathOf_len : ∀ (n : Nat) (b : List Nat) (p : List Piece), Small b → b.length ≤ n → pathOf n b = some p → 4 * lens p + 2 * p.length = b.length ∧ FitS 255 p
 | 0, b, p, _, hn, h => by
  obtain rfl : b = [] := List.eq_nil_of_length_eq_zero (by omega)
  have h0 : (some [] : Option (List Piece)) = some p := h
  injection h0 with h0
  subst h0
  exact ⟨rfl, fun s hs => by cases hs⟩
 | n + 1, [], p, _, _, h => by
  have h0 : (some [] : Option (List Piece)) = some p := h
  injection h0 with h0
  subst h0
  exact ⟨rfl, fun s hs => by cases hs⟩
 | n + 1, [_], p, _, _, h => by
  have h0 : (none : Option (List Piece)) = some p := h
  cases h0
 | n + 1, k :: c :: r, p, hs, hn, h => by
  unfold pathOf at h
  dsimp only at h
  simp only [List.length_cons] at hn ⊢
  split at h
  ·rename_i hc
   cases hq : pathOf n (r.drop (4 * c)) with
   | none => rw [hq] at h; cases h
   | some q =>
    rw [hq] at h
    have h0 : (((k : Nat) : Int), quadsN r c) :: q = p := by simpa using h
    subst h0
    obtain ⟨h1, h2⟩ := pathOf_len n (r.drop (4 * c)) q (fun x hx => hs x (by simp [List.mem_of_mem_drop hx])) (by rw [List.length_drop]; omega) hq
    rw [List.length_drop] at h1
    have e : lens ((((k : Nat) : Int), quadsN r c) :: q) = c + lens q := by simp [lens, quadsN_len]
    rw [e, List.length_cons]
    refine ⟨by omega, fun s hsm => ?_⟩
    rcases List.mem_cons.1 hsm with rfl | h3
    ·show (quadsN r c).length ≤ 255
     rw [quadsN_len]
     have := hs c (by simp)
     omega
    ·exact h2 s h3
  ·cases h
theorem pathIs_len {b : List Nat} {p : List Piece} (hs : Small b) (h : pathIs b = some p) : 4 * lens p + 2 * p.length = b.length ∧ FitS 255 p := pathOf_len _ b p hs (Nat.le_refl _) h
theorem bulk_is (p : List Piece) : bulk p = lens p + p.length := by
 induction p with
 | nil => rfl
 | cons s p ih =>
  have e1 : bulk (s :: p) = s.2.length + 1 + bulk p := by simp [bulk]
  have e2 : lens (s :: p) = s.2.length + lens p := by simp [lens]
  rw [e1, e2, ih, List.length_cons]; omega
theorem u8_only {W W' : World} {v : Value} {l : List Nat} {B : Nat} (h : U8s W v l) (h9 : ∀ i n, W.cell? ⟨B, i, none⟩ ≠ some (.int .u8 n)) (ho : Only (fun q => q = B) W W') : U8s W' v l := by
 obtain ⟨⟨hl, A, c, rfl, hm, hc, hr⟩, hsm⟩ := h
 refine ⟨⟨hl, A, c, rfl, hm, hc, fun h0 => ?_⟩, hsm⟩
 obtain ⟨b, off, rfl, hlt, hcell⟩ := hr h0
 obtain ⟨x, hx⟩ : ∃ x, l[0]? = some x := ⟨_, List.getElem?_eq_getElem h0⟩
 have hne : b ≠ B := fun e => by
  subst e
  have h5 := hcell 0 (.int .u8 x) (by unfold cells8; rw [List.getElem?_map, hx]; rfl)
  exact h9 _ _ h5
 exact ⟨b, off, rfl, Nat.lt_of_lt_of_le hlt ho.size, fun i y hy => by rw [← hcell i y hy]; exact World.cell?_of_block (ho.block b hlt hne)⟩
theorem rsize {W : World} {base n b : Nat} {l : List Nat} {bad : Bool} {F : Nat → Prop} (h : R W base n (.pointer (some ⟨b, 0, none⟩)) l bad F) : n ≤ W.heap.size := by
 rcases h with ⟨h, _⟩ | ⟨_, _, _, _, _, h4, _⟩
 ·cases h
 ·exact h4
set_option maxRecDepth 100000 in
set_option maxHeartbeats 4000000 in
theorem fill8 (f : Int) (A : Option Addr) (c : Nat) (v : List Nat) (w : World) (B N : Nat) (a : At) (hA : BoxA w B N a) (hv : U8s w (.slice A v.length c) v) (hl : v.length % 4 = 0 ∧ v.length ≤ 1020) :
  Calls Tryz.prog 108 #[.agg #[.int .i64 f, .int .i64 8, .slice A v.length c], .pointer (some ⟨B, 0, none⟩)] w (FillF B N a 8 v w) := by
 obtain ⟨hok, hlt, Ap, np, cp, Ac, nc, cc, h9, hp, hc, hn⟩ := hA
 have hb1 : Below w.heap.size w (w.alloc (.cells #[.int .i64 f, .int .i64 8, .slice A v.length c] 90)) := (Below.refl _ _).alloc (Nat.le_refl _) _
 have CN := Go.Lib.hid (new_any _ v _ (hv.keep hb1) (by omega))
 have HS := Go.Lib.hid hv.2
 have HOK := Go.Lib.hid hok
 have HP := Go.Lib.hid hp
 have HC := Go.Lib.hid (And.intro hc hn)
 have H9 := Go.Lib.hid h9
 have q3 := Box3.new w 90 (.int .i64 f) (.int .i64 8) (.slice A v.length c)
 obtain ⟨d0, d1, d2⟩ := q3.cells
 obtain ⟨hh, ho, hpt, hh3, hh4, hh5, hh6, hh7, hh8⟩ := a
 dsimp only at hp h9 hc hok HP HC H9 HOK
 clear hv hb1 hp hc hn h9 hok q3
 obtain ⟨hl4, hl⟩ := hl
 have CT := Go.Lib.hid (fun (b N : Nat) (W : World) (h : R W (w.heap.size + 1) N (.pointer (some ⟨b, 0, none⟩)) v false (fun q => q = b)) => show Calls Tryz.prog 118 #[.pointer (some ⟨b, 0, none⟩), .int .i64 (v.length / 4 : Nat)] W (fun e w' => ∃ A c, e = .returned (.slice A (v.length / 4) c) ∧ U32s w' (.slice A (v.length / 4) c) (quads v) ∧ NewAt W.heap.size (.slice A (v.length / 4) c) ∧ R w' (w.heap.size + 1) N (.pointer (some ⟨b, 0, none⟩)) (Rd.mk (v.drop (4 * (v.length / 4))) false).l false (fun q => q = b) ∧ Only (fun q => q = b) W w') from by
  have h1 := take_n _ _ _ v false _ (v.length / 4) W HS.out h (rsize h) (by omega)
  unfold TakeN at h1
  obtain ⟨e1, e2⟩ := took_good (l := v) (v.length / 4) (by omega)
  rw [e1, e2] at h1
  exact h1)
 have CL := Go.Lib.hid (fun (b N : Nat) (W : World) (h : R W (w.heap.size + 1) N (.pointer (some ⟨b, 0, none⟩)) v false (fun q => q = b)) => left_any _ _ _ v false _ W h)
 have wq : wrap64 (((v.length : Nat) : Int) / 4) = ((v.length / 4 : Nat) : Int) := by unfold wrap64; omega
 have hok2 := HOK.out
 clear hl4 hl
 go_enter Tryz.func108, Tryz.ntmps108
 go_wp2_with (first
  | (go_at_call 40; (refine (CN.out).mono ?_; rintro e x ⟨b, rfl, hR, hb⟩; have S1 := Go.Lib.hid (fi_new (x := ⟨v, false⟩) H9.out n9 hR hb); clear hR hb d0 d1 d2; obtain ⟨d0, d1, d2⟩ := S1.out.b3.cells; obtain ⟨c0, c1, c2, c3, c4, c5, c6, c7, c8⟩ := S1.out.b9.cells; have fB := S1.out.b9.free))
  | (have h := S1.out; go_at_call 47; (refine (CL.out _ _ _ h.rd).mono ?_; rintro e x ⟨rfl, hb⟩; have S2 := Go.Lib.hid (h.below hb); clear hb h S1; clear d0 d1 d2 c0 c1 c2 c3 c4 c5 c6 c7 c8 fB; obtain ⟨d0, d1, d2⟩ := S2.out.b3.cells; obtain ⟨c0, c1, c2, c3, c4, c5, c6, c7, c8⟩ := S2.out.b9.cells; have fB := S2.out.b9.free))
  | (have h := S2.out; go_at_call 118; (refine (CT.out _ _ _ h.rd).mono ?_; rintro e x9 ⟨At, ct, rfl, hU, hN, hR, ho⟩; have S3 := Go.Lib.hid (h.read (y := ⟨v.drop (4 * (v.length / 4)), false⟩) hR ho); have HU := Go.Lib.hid (And.intro hU (hN.lower (Nat.le_trans hlt.2 h.on.size))); clear hR ho hU hN h S2; clear d0 d1 d2 c0 c1 c2 c3 c4 c5 c6 c7 c8 fB; obtain ⟨d0, d1, d2⟩ := S3.out.b3.cells; obtain ⟨c0, c1, c2, c3, c4, c5, c6, c7, c8⟩ := S3.out.b9.cells; have fB := S3.out.b9.free; have S4 := Go.Lib.hid (S3.out.set8 (.slice At (v.length / 4) ct) (no8_s _ _ _)))))
 go_ret
 refine ⟨rfl, S4.out.on, fun _ => ?_⟩
 exact ⟨HOK.out, ⟨hlt.1, Nat.le_trans hlt.2 S4.out.on.size⟩, Ap, np, cp, At, _, ct, S4.out.b9, segs_on HP.out S4.out.on (fun k e => by subst e; exact hlt.1), u32_off HU.out.1 HU.out.2 (off_set _ hlt.1) (by simp), HU.out.2⟩
set_option maxRecDepth 100000 in
set_option maxHeartbeats 4000000 in
theorem fill2 (f : Int) (A : Option Addr) (c : Nat) (v : List Nat) (w : World) (B N : Nat) (a : At) (hA : BoxA w B N a) (hv : U8s w (.slice A v.length c) v) (hl : v.length ≤ 65535) :
  Calls Tryz.prog 108 #[.agg #[.int .i64 f, .int .i64 2, .slice A v.length c], .pointer (some ⟨B, 0, none⟩)] w (FillF B N a 2 v w) := by
 obtain ⟨hok, hlt, Ap, np, cp, Ac, nc, cc, h9, hp, hc, hn⟩ := hA
 have hb1 : Below w.heap.size w (w.alloc (.cells #[.int .i64 f, .int .i64 2, .slice A v.length c] 90)) := (Below.refl _ _).alloc (Nat.le_refl _) _
 have CN := Go.Lib.hid (new_any _ v _ (hv.keep hb1) (by omega))
 have HS := Go.Lib.hid hv.2
 have HOK := Go.Lib.hid hok
 have HP := Go.Lib.hid hp
 have HC := Go.Lib.hid (And.intro hc hn)
 have H9 := Go.Lib.hid h9
 have q3 := Box3.new w 90 (.int .i64 f) (.int .i64 2) (.slice A v.length c)
 obtain ⟨d0, d1, d2⟩ := q3.cells
 obtain ⟨hh, ho, hpt, hh3, hh4, hh5, hh6, hh7, hh8⟩ := a
 dsimp only at hp h9 hc hok HP HC H9 HOK
 have HUV := Go.Lib.hid hv
 clear hv hb1 hp hc hn h9 hok q3
 have HV := Go.Lib.hid (fun (W : World) (h : Only (fun q => q = B) w W) (h9 : ∀ i n, w.cell? ⟨B, i, none⟩ ≠ some (.int .u8 n)) => u8_only HUV.out h9 h)
 have CP := Go.Lib.hid (fun (W : World) (h : U8s W (.slice A v.length c) v) => path_any _ v W h (by omega))
 cases hp2 : pathIs v with
 | none =>
  have HE := Go.Lib.hid (show fillN 2 v = 11 by simp [fillN, hp2])
  unfold PathF at CP
  rw [hp2] at CP
  clear hp2 hl
  unfold FillF
  rw [HE.out]
  go_enter Tryz.func108, Tryz.ntmps108
  go_wp2_with (first
   | (go_at_call 40; (refine (CN.out).mono ?_; rintro e x ⟨b, rfl, hR, hb⟩; have S1 := Go.Lib.hid (fi_new (x := ⟨v, false⟩) H9.out n9 hR hb); clear hR hb d0 d1 d2; obtain ⟨d0, d1, d2⟩ := S1.out.b3.cells; obtain ⟨c0, c1, c2, c3, c4, c5, c6, c7, c8⟩ := S1.out.b9.cells; have fB := S1.out.b9.free))
   | (have h := S1.out; go_at_call 116; (refine (CP.out _ (HV.out _ h.on (H9.out.no8 n9))).mono ?_; intro e x hF; have HF := Go.Lib.hid (And.intro (h.below hF.1) hF.2); clear hF h; have S2 := Go.Lib.hid HF.out.1; obtain rfl := HF.out.2; clear HF; clear S1; clear d0 d1 d2 c0 c1 c2 c3 c4 c5 c6 c7 c8 fB; obtain ⟨d0, d1, d2⟩ := S2.out.b3.cells; obtain ⟨c0, c1, c2, c3, c4, c5, c6, c7, c8⟩ := S2.out.b9.cells; have fB := S2.out.b9.free)))
  go_ret
  refine ⟨rfl, S2.out.on, fun hz => ?_⟩
  cases hz
 | some p =>
  obtain ⟨hpl, hpf⟩ := pathIs_len HS.out hp2
  unfold PathF at CP
  rw [hp2] at CP
  have CN2 := Go.Lib.hid (fun (v' : Value) (W : World) (h : Segs W v' p) => numbers_any v' p W h (by omega))
  have CM := Go.Lib.hid (fun (v' : Value) (W : World) (h : Segs W v' p) => pnorm_any v' p W h (by rw [bulk_is]; omega) (fun s hs => Nat.le_trans (hpf s hs) (by decide)))
  have CG := Go.Lib.hid (fun (v' : Value) (W : World) (h : Segs W v' (normS p)) => pgood_any v' (normS p) W h)
  have HEQ := Go.Lib.hid (show fillN 2 v = if goodP (normS p) && decide (lens p ≤ 2000) then 0 else 11 by simp [fillN, hp2])
  have HPV := Go.Lib.hid (show (pathIs v).getD [] = p by rw [hp2]; rfl)
  unfold FillF
  rw [HEQ.out]
  clear hp2 hl hpl hpf
  by_cases hln : 2000 < lens p
  ·have z1 : ((lens p : Nat) : Int) > 2000 := by omega
   rw [decide_eq_false (show ¬ lens p ≤ 2000 by omega), Bool.and_false, if_neg (by decide)]
   clear hln HEQ
   go_enter Tryz.func108, Tryz.ntmps108
   go_wp2_with (first
    | (go_at_call 40; (refine (CN.out).mono ?_; rintro e x ⟨b, rfl, hR, hb⟩; have S1 := Go.Lib.hid (fi_new (x := ⟨v, false⟩) H9.out n9 hR hb); clear hR hb d0 d1 d2; obtain ⟨d0, d1, d2⟩ := S1.out.b3.cells; obtain ⟨c0, c1, c2, c3, c4, c5, c6, c7, c8⟩ := S1.out.b9.cells; have fB := S1.out.b9.free))
    | (have h := S1.out; go_at_call 116; (refine (CP.out _ (HV.out _ h.on (H9.out.no8 n9))).mono ?_; intro e x hF; have HF := Go.Lib.hid (And.intro (h.below hF.1) hF.2); clear hF h; obtain ⟨vq, rfl, hq⟩ := HF.out.2; obtain ⟨aq, cq, rfl⟩ := hq.form; have HQ := Go.Lib.hid (hq.lower (Nat.le_trans hlt.2 S1.out.on.size) (Nat.le_trans hlt.2 S1.out.on.size)); have S2 := Go.Lib.hid HF.out.1; clear HF hq; clear S1; clear d0 d1 d2 c0 c1 c2 c3 c4 c5 c6 c7 c8 fB; obtain ⟨d0, d1, d2⟩ := S2.out.b3.cells; obtain ⟨c0, c1, c2, c3, c4, c5, c6, c7, c8⟩ := S2.out.b9.cells; have fB := S2.out.b9.free))
    | (go_at_call 70; (refine (CN2.out _ _ HQ.out.segs).mono ?_; rintro e x ⟨rfl, hb⟩; have S3 := Go.Lib.hid (S2.out.below hb); replace HQ := Go.Lib.hid (HQ.out.keep hb); clear hb S2; clear d0 d1 d2 c0 c1 c2 c3 c4 c5 c6 c7 c8 fB; obtain ⟨d0, d1, d2⟩ := S3.out.b3.cells; obtain ⟨c0, c1, c2, c3, c4, c5, c6, c7, c8⟩ := S3.out.b9.cells; have fB := S3.out.b9.free)))
   go_ret
   refine ⟨rfl, S3.out.on, fun hz => ?_⟩
   cases hz
  ·have z1 : decide ((2000 : Int) < (lens p : Nat)) = false := decide_eq_false (by omega)
   rw [decide_eq_true (show lens p ≤ 2000 by omega), Bool.and_true]
   clear hln HEQ
   cases hg : goodP (normS p) with
   | false =>
    rw [hg] at CG
    rw [if_neg (by decide)]
    clear hg
    go_enter Tryz.func108, Tryz.ntmps108
    go_wp2_with (first
     | (go_at_call 40; (refine (CN.out).mono ?_; rintro e x ⟨b, rfl, hR, hb⟩; have S1 := Go.Lib.hid (fi_new (x := ⟨v, false⟩) H9.out n9 hR hb); clear hR hb d0 d1 d2; obtain ⟨d0, d1, d2⟩ := S1.out.b3.cells; obtain ⟨c0, c1, c2, c3, c4, c5, c6, c7, c8⟩ := S1.out.b9.cells; have fB := S1.out.b9.free))
     | (have h := S1.out; go_at_call 116; (refine (CP.out _ (HV.out _ h.on (H9.out.no8 n9))).mono ?_; intro e x hF; have HF := Go.Lib.hid (And.intro (h.below hF.1) hF.2); clear hF h; obtain ⟨vq, rfl, hq⟩ := HF.out.2; obtain ⟨aq, cq, rfl⟩ := hq.form; have HQ := Go.Lib.hid (hq.lower (Nat.le_trans hlt.2 S1.out.on.size) (Nat.le_trans hlt.2 S1.out.on.size)); have S2 := Go.Lib.hid HF.out.1; clear HF hq; clear S1; clear d0 d1 d2 c0 c1 c2 c3 c4 c5 c6 c7 c8 fB; obtain ⟨d0, d1, d2⟩ := S2.out.b3.cells; obtain ⟨c0, c1, c2, c3, c4, c5, c6, c7, c8⟩ := S2.out.b9.cells; have fB := S2.out.b9.free))
     | (go_at_call 70; (refine (CN2.out _ _ HQ.out.segs).mono ?_; rintro e x ⟨rfl, hb⟩; have S3 := Go.Lib.hid (S2.out.below hb); replace HQ := Go.Lib.hid (HQ.out.keep hb); clear hb S2; clear d0 d1 d2 c0 c1 c2 c3 c4 c5 c6 c7 c8 fB; obtain ⟨d0, d1, d2⟩ := S3.out.b3.cells; obtain ⟨c0, c1, c2, c3, c4, c5, c6, c7, c8⟩ := S3.out.b9.cells; have fB := S3.out.b9.free))
     | (go_at_call 109; (refine (CM.out _ _ HQ.out.segs).mono ?_; rintro e x ⟨vn, rfl, hn, hb⟩; have HN := Go.Lib.hid hn.segs; have S4 := Go.Lib.hid (S3.out.below hb); replace HQ := Go.Lib.hid (HQ.out.keep hb); clear hb hn S3; clear d0 d1 d2 c0 c1 c2 c3 c4 c5 c6 c7 c8 fB; obtain ⟨d0, d1, d2⟩ := S4.out.b3.cells; obtain ⟨c0, c1, c2, c3, c4, c5, c6, c7, c8⟩ := S4.out.b9.cells; have fB := S4.out.b9.free))
     | (go_at_call 69; (refine (CG.out _ _ HN.out).mono ?_; rintro e x ⟨rfl, hb⟩; have S5 := Go.Lib.hid (S4.out.below hb); replace HQ := Go.Lib.hid (HQ.out.keep hb); clear hb S4; clear d0 d1 d2 c0 c1 c2 c3 c4 c5 c6 c7 c8 fB; obtain ⟨d0, d1, d2⟩ := S5.out.b3.cells; obtain ⟨c0, c1, c2, c3, c4, c5, c6, c7, c8⟩ := S5.out.b9.cells; have fB := S5.out.b9.free; have fE := S5.out.b9.free; have S6 := Go.Lib.hid (S5.out.set2 (.slice aq p.length cq) (no8_s _ _ _)))))
    go_ret
    refine ⟨rfl, S5.out.on, fun hz => ?_⟩
    cases hz
   | true =>
    rw [hg] at CG
    rw [if_pos (by decide)]
    clear hg
    go_enter Tryz.func108, Tryz.ntmps108
    go_wp2_with (first
     | (go_at_call 40; (refine (CN.out).mono ?_; rintro e x ⟨b, rfl, hR, hb⟩; have S1 := Go.Lib.hid (fi_new (x := ⟨v, false⟩) H9.out n9 hR hb); clear hR hb d0 d1 d2; obtain ⟨d0, d1, d2⟩ := S1.out.b3.cells; obtain ⟨c0, c1, c2, c3, c4, c5, c6, c7, c8⟩ := S1.out.b9.cells; have fB := S1.out.b9.free))
     | (have h := S1.out; go_at_call 116; (refine (CP.out _ (HV.out _ h.on (H9.out.no8 n9))).mono ?_; intro e x hF; have HF := Go.Lib.hid (And.intro (h.below hF.1) hF.2); clear hF h; obtain ⟨vq, rfl, hq⟩ := HF.out.2; obtain ⟨aq, cq, rfl⟩ := hq.form; have HQ := Go.Lib.hid (hq.lower (Nat.le_trans hlt.2 S1.out.on.size) (Nat.le_trans hlt.2 S1.out.on.size)); have S2 := Go.Lib.hid HF.out.1; clear HF hq; clear S1; clear d0 d1 d2 c0 c1 c2 c3 c4 c5 c6 c7 c8 fB; obtain ⟨d0, d1, d2⟩ := S2.out.b3.cells; obtain ⟨c0, c1, c2, c3, c4, c5, c6, c7, c8⟩ := S2.out.b9.cells; have fB := S2.out.b9.free))
     | (go_at_call 70; (refine (CN2.out _ _ HQ.out.segs).mono ?_; rintro e x ⟨rfl, hb⟩; have S3 := Go.Lib.hid (S2.out.below hb); replace HQ := Go.Lib.hid (HQ.out.keep hb); clear hb S2; clear d0 d1 d2 c0 c1 c2 c3 c4 c5 c6 c7 c8 fB; obtain ⟨d0, d1, d2⟩ := S3.out.b3.cells; obtain ⟨c0, c1, c2, c3, c4, c5, c6, c7, c8⟩ := S3.out.b9.cells; have fB := S3.out.b9.free))
     | (go_at_call 109; (refine (CM.out _ _ HQ.out.segs).mono ?_; rintro e x ⟨vn, rfl, hn, hb⟩; have HN := Go.Lib.hid hn.segs; have S4 := Go.Lib.hid (S3.out.below hb); replace HQ := Go.Lib.hid (HQ.out.keep hb); clear hb hn S3; clear d0 d1 d2 c0 c1 c2 c3 c4 c5 c6 c7 c8 fB; obtain ⟨d0, d1, d2⟩ := S4.out.b3.cells; obtain ⟨c0, c1, c2, c3, c4, c5, c6, c7, c8⟩ := S4.out.b9.cells; have fB := S4.out.b9.free))
     | (go_at_call 69; (refine (CG.out _ _ HN.out).mono ?_; rintro e x ⟨rfl, hb⟩; have S5 := Go.Lib.hid (S4.out.below hb); replace HQ := Go.Lib.hid (HQ.out.keep hb); clear hb S4; clear d0 d1 d2 c0 c1 c2 c3 c4 c5 c6 c7 c8 fB; obtain ⟨d0, d1, d2⟩ := S5.out.b3.cells; obtain ⟨c0, c1, c2, c3, c4, c5, c6, c7, c8⟩ := S5.out.b9.cells; have fB := S5.out.b9.free; have fE := S5.out.b9.free; have S6 := Go.Lib.hid (S5.out.set2 (.slice aq p.length cq) (no8_s _ _ _)))))
    go_ret
    refine ⟨rfl, S6.out.on, fun _ => ?_⟩
    have HQ2 := segs_off HQ.out (off_set (B := B) (i := 2) (.slice aq p.length cq) hlt.1) (by simp)
    refine ⟨HOK.out, ⟨hlt.1, Nat.le_trans hlt.2 S6.out.on.size⟩, aq, _, cq, Ac, nc, cc, S6.out.b9, ?_, u32_on HC.out.1 HC.out.2 S6.out.on (fun k e => by subst e; exact hlt.1), HC.out.2⟩
    show OwnSegsF 117 N N _ _ ((pathIs v).getD [])
    rw [HPV.out]
    exact HQ2
end Go.Proofs.YtlhdjdnflpilbaaGreatDoor.Att
namespace Go.Proofs.YtlhdjdnflpilbaaGreatDoor.Att
open Go.RowKit Mem Segm Oct Seg
theorem fill_any (f k : Nat) (A : Option Addr) (c : Nat) (v : List Nat) (w : World) (B N : Nat) (a : At) (hA : BoxA w B N a) (hv : U8s w (.slice A v.length c) v) (h1 : 1 ≤ k) (h8 : k ≤ 8) (hl : longB k v.length = true) (hm : v.length ≤ 65535) :
  Calls Tryz.prog 108 #[.agg #[.int .i64 f, .int .i64 k, .slice A v.length c], .pointer (some ⟨B, 0, none⟩)] w (FillF B N a k v w) := by
 have hk : k = 1 ∨ k = 2 ∨ k = 3 ∨ k = 4 ∨ k = 5 ∨ k = 6 ∨ k = 7 ∨ k = 8 := by omega
 rcases hk with rfl | rfl | rfl | rfl | rfl | rfl | rfl | rfl
 ·exact fill1 f A c v w B N a hA hv (by simpa [longB] using hl)
 ·exact fill2 f A c v w B N a hA hv hm
 ·exact fill3 f A c v w B N a hA hv (by simpa [longB] using hl)
 ·exact fill4 f A c v w B N a hA hv (by simpa [longB] using hl)
 ·exact fill5 f A c v w B N a hA hv (by simpa [longB] using hl)
 ·exact fill6 f A c v w B N a hA hv (by simpa [longB] using hl)
 ·exact fill7 f A c v w B N a hA hv (by simpa [longB] using hl)
 ·exact fill8 f A c v w B N a hA hv (by simpa [longB] using hl)
theorem or_pow {h : Int} {k : Nat} (h0 : 0 ≤ h) (h5 : h < 512) (hk : k ≤ 8) (hb : h / 2 ^ k % 2 = 0) : bits .or .i64 h (2 ^ k) = h + 2 ^ k := by
 obtain ⟨x, rfl⟩ := Int.eq_ofNat_of_zero_le h0
 have h2 : 2 ^ k ≤ 256 := Nat.le_trans (Nat.pow_le_pow_right (by omega) hk) (by decide)
 have e2 : (BitVec.ofInt 64 (2 ^ k)).toNat = 2 ^ k := by
  rw [ofInt_nat]
  have h1 : (2 : Int) ^ k = ((2 ^ k : Nat) : Int) := by simp
  rw [h1]
  generalize 2 ^ k = y at h2
  omega
 have e1 : (BitVec.ofInt 64 (x : Int)).toNat = x := by rw [ofInt_nat]; omega
 have hb2 : x / 2 ^ k % 2 = 0 := by
  have hk2 : k = 0 ∨ k = 1 ∨ k = 2 ∨ k = 3 ∨ k = 4 ∨ k = 5 ∨ k = 6 ∨ k = 7 ∨ k = 8 := by omega
  rcases hk2 with rfl | rfl | rfl | rfl | rfl | rfl | rfl | rfl | rfl <;> simp only [Nat.reducePow, Int.reducePow] at hb ⊢ <;> omega
 show IntKind.i64.wrap ((BitVec.ofInt 64 (x : Int) ||| BitVec.ofInt 64 (2 ^ k)).toNat : Nat) = _
 rw [BitVec.toNat_or, e1, e2]
 have e3 : x ||| 2 ^ k = x + 2 ^ k := by
  apply Nat.eq_of_testBit_eq
  intro i
  rw [Nat.testBit_or, Nat.testBit_two_pow]
  have h9 : ∀ y : Nat, y < 512 → ∀ k : Nat, k < 9 → y / 2 ^ k % 2 = 0 → y ||| 2 ^ k = y + 2 ^ k := by decide +kernel
  rw [← h9 x (by omega) k (by omega) hb2, Nat.testBit_or, Nat.testBit_two_pow]
 rw [e3, wrap_low (by omega)]
 simp
theorem sub_known {f k : Nat} {v : List Nat} (hk : ¬ (k < 1 ∨ 8 < k)) : subOf f k v = if ownF f k ≠ flagN k then 4 else if longB k v.length = false then 5 else fillN k v := by
 unfold subOf fillN
 rw [if_neg hk]
 cases pathIs v <;> rfl
def putHas (a : At) (h : Int) : At := ⟨h, a.origin, a.path, a.hop, a.med, a.pref, a.aas, a.aid, a.comms⟩
theorem lay_known {a : At} {k : Nat} {v : List Nat} (hk : ¬ (k < 1 ∨ 8 < k)) : layA a k v = fillA (putHas a (a.has + 2 ^ k)) k v := by
 unfold layA
 rw [if_neg hk]; rfl
theorem BoxA.sethas {W : World} {B N : Nat} {a : At} (h : BoxA W B N a) (x : Int) (hx : (Lit.int .i64 x).wf = true) : BoxA (W.setCell ⟨B, 0, none⟩ (.int .i64 x)) B N (putHas a x) := by
 obtain ⟨h1, h2, Ap, np, cp, Ac, nc, cc, h3, h4, h5, h6⟩ := h
 exact ⟨⟨hx, h1.2⟩, ⟨h2.1, by simpa using h2.2⟩, Ap, np, cp, Ac, nc, cc, h3.set0 _, segs_off h4 (off_set _ h2.1) (by simp), u32_off h5 h6 (off_set _ h2.1) (by simp), h6⟩
def ReadF (B N : Nat) (a : At) (f k : Nat) (v : List Nat) (w : World) (e : Ending) (w' : World) : Prop :=
 e = .returned (.int .i64 (subOf f k v : Nat)) ∧ Only (fun q => q = B) w w' ∧ (subOf f k v = 0 → BoxA w' B N (layA a k v))
set_option maxRecDepth 100000 in
set_option maxHeartbeats 4000000 in
theorem read_any (f k : Nat) (A : Option Addr) (c : Nat) (v : List Nat) (w : World) (B N : Nat) (a : At) (hA : BoxA w B N a) (hv : U8s w (.slice A v.length c) v) (hS : Shp w) (hf : f < 256) (hm : v.length ≤ 65535) (h0 : 0 ≤ a.has) (h5 : a.has < 512) (hb : a.has / 2 ^ k % 2 = 0) :
  Calls Tryz.prog 88 #[.agg #[.int .i64 f, .int .i64 k, .slice A v.length c], .pointer (some ⟨B, 0, none⟩)] w (ReadF B N a f k v w) := by
 have q3 := Box3.new w 90 (.int .i64 f) (.int .i64 k) (.slice A v.length c)
 have hb1 : Below w.heap.size w (w.alloc (.cells #[.int .i64 f, .int .i64 k, .slice A v.length c] 90)) := (Below.refl _ _).alloc (Nat.le_refl _) _
 have Q0 := Go.Lib.hid (And.intro q3 hb1)
 have HA := Go.Lib.hid hA
 have HU := Go.Lib.hid hv
 have HS := Go.Lib.hid hS
 obtain ⟨d0, d1, d2⟩ := q3.cells
 clear q3 hb1
 unfold ReadF
 by_cases hk : k < 1 ∨ 8 < k
 ·have CK := Go.Lib.hid (fun (W : World) => show Calls Tryz.prog 93 #[.int .i64 k] W (Tells (.bool false) W) from by
   have h := known_any (k : Int) W
   rw [show (decide ((1 : Int) ≤ (k : Int)) && decide ((k : Int) ≤ 8)) = false by
    rcases hk with h | h
    ·rw [decide_eq_false (by omega)]; rfl
    ·rw [decide_eq_false (show ¬ (k : Int) ≤ 8 by omega)]; simp] at h
   exact h)
  have HL := Go.Lib.hid (show layA a k v = a by unfold layA; rw [if_pos hk])
  have n128 := byte128 f hf
  by_cases hf2 : f < 128
  ·rw [if_pos hf2] at n128
   have HE := Go.Lib.hid (show subOf f k v = 2 by unfold subOf; rw [if_pos hk, if_pos hf2])
   rw [HE.out]
   clear hk hf2 hf hA hv hS
   go_enter Tryz.func88, Tryz.ntmps88
   go_wp2_with (go_at_call 93; refine (CK.out _).mono ?_; rintro e x ⟨rfl, hx⟩; have Q1 := Go.Lib.hid (And.intro (Q0.out.1.keep hx) (Q0.out.2.trans (hx.mono Q0.out.2.size))); clear hx d0 d1 d2; obtain ⟨d0, d1, d2⟩ := Q1.out.1.cells)
   go_ret
   exact ⟨rfl, Only.of Q1.out.2, fun hz => by cases hz⟩
  ·rw [if_neg hf2] at n128
   have HE := Go.Lib.hid (show subOf f k v = 0 by unfold subOf; rw [if_pos hk, if_neg hf2])
   rw [HE.out, HL.out]
   clear hk hf2 hf hA hv hS
   go_enter Tryz.func88, Tryz.ntmps88
   go_wp2_with (go_at_call 93; refine (CK.out _).mono ?_; rintro e x ⟨rfl, hx⟩; have Q1 := Go.Lib.hid (And.intro (Q0.out.1.keep hx) (Q0.out.2.trans (hx.mono Q0.out.2.size))); clear hx d0 d1 d2; obtain ⟨d0, d1, d2⟩ := Q1.out.1.cells)
   go_ret
   exact ⟨rfl, Only.of Q1.out.2, fun hz => HA.out.below Q1.out.2⟩
 ·have CK := Go.Lib.hid (fun (W : World) => show Calls Tryz.prog 93 #[.int .i64 k] W (Tells (.bool true) W) from by
   have h := known_any (k : Int) W
   rw [decide_eq_true (show (1 : Int) ≤ (k : Int) by omega), decide_eq_true (show (k : Int) ≤ 8 by omega)] at h
   exact h)
  have CF := Go.Lib.hid (fun (W : World) (h : Below w.heap.size w W) => flagged_any f k (.slice A v.length c) W (HS.out.keep h) hf (by omega) (by omega))
  have CT := Go.Lib.hid (fun (W : World) (h : Below w.heap.size w W) => fits_any k v.length W (HS.out.keep h) (by omega) (by omega) (by omega))
  have CI := Go.Lib.hid (fun (W : World) (a : At) (h : BoxA W B N a) (hu : U8s W (.slice A v.length c) v) (hl : longB k v.length = true) => fill_any f k A c v W B N a h hu (by omega) (by omega) hl hm)
  rw [sub_known hk]
  by_cases hfl : ownF f k = flagN k
  ·rw [if_neg (fun h => h hfl)]
   rw [decide_eq_true hfl] at CF
   cases hlg : longB k v.length with
   | false =>
    rw [hlg] at CT
    rw [if_pos rfl]
    clear hk hf hA hv hS hlg hfl
    go_enter Tryz.func88, Tryz.ntmps88
    go_wp2_with (first
     | (go_at_call 93; refine (CK.out _).mono ?_; rintro e x ⟨rfl, hx⟩; have Q1 := Go.Lib.hid (And.intro (Q0.out.1.keep hx) (Q0.out.2.trans (hx.mono Q0.out.2.size))); clear hx d0 d1 d2 Q0; obtain ⟨d0, d1, d2⟩ := Q1.out.1.cells)
     | (go_at_call 106; refine (CF.out _ Q1.out.2).mono ?_; rintro e x ⟨rfl, hx⟩; have Q2 := Go.Lib.hid (And.intro (Q1.out.1.keep hx) (Q1.out.2.trans (hx.mono Q1.out.2.size))); clear hx d0 d1 d2 Q1; obtain ⟨d0, d1, d2⟩ := Q2.out.1.cells)
     | (go_at_call 107; refine (CT.out _ Q2.out.2).mono ?_; rintro e x3 ⟨rfl, hx⟩; have Q3 := Go.Lib.hid (And.intro (Q2.out.1.keep hx) (Q2.out.2.trans (hx.mono Q2.out.2.size))); clear hx d0 d1 d2 Q2; obtain ⟨d0, d1, d2⟩ := Q3.out.1.cells))
    go_ret
    exact ⟨rfl, Only.of Q3.out.2, fun hz => by cases hz⟩
   | true =>
    rw [hlg] at CT
    rw [if_neg (by decide)]
    have HW := Go.Lib.hid (show (Lit.int .i64 (a.has + 2 ^ k)).wf = true by
     have h2 : 2 ^ k ≤ 256 := Nat.le_trans (Nat.pow_le_pow_right (by omega) (show k ≤ 8 by omega)) (by decide)
     have h1 : (2 : Int) ^ k = ((2 ^ k : Nat) : Int) := by simp
     rw [h1]
     generalize 2 ^ k = y at h2
     simp [Lit.wf, IntKind.min, IntKind.max, IntKind.signed, IntKind.bits]; omega)
    have HO := Go.Lib.hid (show bits .or .i64 a.has (wrap64 (2 ^ min k 64)) = a.has + 2 ^ k by
     rw [Nat.min_eq_left (show k ≤ 64 by omega)]
     have e : wrap64 ((2 : Int) ^ k) = 2 ^ k := by
      have h1 : (2 : Int) ^ k = ((2 ^ k : Nat) : Int) := by simp
      have h2 : 2 ^ k ≤ 256 := Nat.le_trans (Nat.pow_le_pow_right (by omega) (show k ≤ 8 by omega)) (by decide)
      rw [h1]
      generalize 2 ^ k = y at h2
      unfold wrap64; omega
     rw [e]
     exact or_pow h0 h5 (by omega) hb)
    have z0 : (0 : Int) ≤ (k : Int) := by omega
    have HLA := Go.Lib.hid (show layA a k v = fillA (putHas a (a.has + 2 ^ k)) k v from lay_known hk)
    rw [HLA.out]
    have HLG := Go.Lib.hid hlg
    have hB := hA.lt
    clear hk hf hA hv hS hlg hfl h0 h5 hb
    go_enter Tryz.func88, Tryz.ntmps88
    go_wp2_with (first
     | (go_at_call 93; refine (CK.out _).mono ?_; rintro e x ⟨rfl, hx⟩; have Q1 := Go.Lib.hid (And.intro (Q0.out.1.keep hx) (Q0.out.2.trans (hx.mono Q0.out.2.size))); clear hx d0 d1 d2 Q0; obtain ⟨d0, d1, d2⟩ := Q1.out.1.cells)
     | (go_at_call 106; refine (CF.out _ Q1.out.2).mono ?_; rintro e x ⟨rfl, hx⟩; have Q2 := Go.Lib.hid (And.intro (Q1.out.1.keep hx) (Q1.out.2.trans (hx.mono Q1.out.2.size))); clear hx d0 d1 d2 Q1; obtain ⟨d0, d1, d2⟩ := Q2.out.1.cells)
     | (go_at_call 107; refine (CT.out _ Q2.out.2).mono ?_; rintro e x3 ⟨rfl, hx⟩; have Q3 := Go.Lib.hid (And.intro (Q2.out.1.keep hx) (Q2.out.2.trans (hx.mono Q2.out.2.size))); clear hx d0 d1 d2 Q2; obtain ⟨d0, d1, d2⟩ := Q3.out.1.cells))
    have QD := Go.Lib.hid (And.intro (Q3.out.1.keep (Below.refl _ _).drew) (Q3.out.2.trans ((Below.refl _ x3).drew.mono Q3.out.2.size)))
    have A3 := Go.Lib.hid (HA.out.below QD.out.2)
    clear d0 d1 d2
    obtain ⟨d0, d1, d2⟩ := QD.out.1.cells
    obtain ⟨-, -, Ap, np, cp, Ac, nc, cc, b9, -, -, -⟩ := A3.out
    obtain ⟨-, -, Ap0, np0, cp0, Ac0, nc0, cc0, b90, -, -, -⟩ := HA.out
    have HA9 := Go.Lib.hid b90
    clear b90
    obtain ⟨c0, -⟩ := b9.cells
    have fB := b9.free
    clear b9
    go_region
    rw [HO.out]
    clear d0 d1 d2 c0 fB
    have A4 := Go.Lib.hid (((HA.out.below Q3.out.2).sethas (a.has + 2 ^ k) HW.out).below (Below.refl _ _).drew)
    have D4 := Go.Lib.hid ((Q3.out.1.far (i := 0) (show w.heap.size ≠ B by omega) (.int .i64 (a.has + 2 ^ k))).keep (Below.refl _ _).drew)
    have O4 := Go.Lib.hid (((Only.of (F := fun q => q = B) Q3.out.2).set (i := 0) rfl (.int .i64 (a.has + 2 ^ k))).drew)
    obtain ⟨W4, hW4⟩ : ∃ W4, W4 = (x3.setCell ⟨B, 0, none⟩ (.int .i64 (a.has + 2 ^ k))).drew := ⟨_, rfl⟩
    rw [← hW4] at A4 D4 O4 ⊢
    clear hW4
    have CIW := Go.Lib.hid (CI.out W4 _ A4.out (u8_only HU.out (HA9.out.no8 n9) O4.out) HLG.out)
    obtain ⟨d0, d1, d2⟩ := D4.out.cells
    go_wp2_with (go_at_call 108; (refine (CIW.out).mono ?_; rintro e x ⟨rfl, ho5, hg5⟩; have R5 := Go.Lib.hid (And.intro (O4.out.trans ho5) hg5); clear ho5 hg5))
    go_ret
    exact ⟨rfl, R5.out.1, R5.out.2⟩
  ·rw [if_pos hfl]
   rw [decide_eq_false hfl] at CF
   clear hk hf hA hv hS hfl
   go_enter Tryz.func88, Tryz.ntmps88
   go_wp2_with (first
    | (go_at_call 93; refine (CK.out _).mono ?_; rintro e x ⟨rfl, hx⟩; have Q1 := Go.Lib.hid (And.intro (Q0.out.1.keep hx) (Q0.out.2.trans (hx.mono Q0.out.2.size))); clear hx d0 d1 d2 Q0; obtain ⟨d0, d1, d2⟩ := Q1.out.1.cells)
    | (go_at_call 106; refine (CF.out _ Q1.out.2).mono ?_; rintro e x ⟨rfl, hx⟩; have Q2 := Go.Lib.hid (And.intro (Q1.out.1.keep hx) (Q1.out.2.trans (hx.mono Q1.out.2.size))); clear hx d0 d1 d2 Q1; obtain ⟨d0, d1, d2⟩ := Q2.out.1.cells))
   go_ret
   exact ⟨rfl, Only.of Q2.out.2, fun hz => by cases hz⟩
end Go.Proofs.YtlhdjdnflpilbaaGreatDoor.Att
namespace Go.Proofs.YtlhdjdnflpilbaaGreatDoor.Att
open Segm Rise Oct
theorem item_facts {l : List Nat} {x : Item} (hs : Small l) (h : itemOf l = some x) : x.f < 256 ∧ x.k < 256 ∧ x.v.length ≤ 65535 ∧ (255 < x.v.length → x.f / 16 % 2 = 1) ∧ Small x.v ∧ Small x.r ∧ x.r.length + 3 ≤ l.length ∧ x.r.length + x.v.length ≤ l.length := by
 match l, hs, h with
 | [], _, h => simp [itemOf] at h
 | [_], _, h => simp [itemOf] at h
 | f :: k :: r, hs, h =>
  have hf := hs f (by simp)
  have hk := hs k (by simp)
  have hr : Small r := fun n hn => hs n (by simp [hn])
  unfold itemOf at h
  dsimp only at h
  by_cases hl : f / 16 % 2 = 1
  ·rw [if_pos hl] at h
   match r, hr, h with
   | [], _, h => simp at h
   | [_], _, h => simp at h
   | n1 :: n0 :: r2, hr, h =>
    have h1 := hr n1 (by simp)
    have h0 := hr n0 (by simp)
    have h2 : Small r2 := fun n hn => hr n (by simp [hn])
    dsimp only at h
    split at h
    ·injection h with h
     subst h
     dsimp only
     refine ⟨hf, hk, ?_, fun _ => hl, h2.take _, h2.drop _, ?_, ?_⟩ <;> simp only [List.length_take, List.length_drop, List.length_cons] <;> omega
    ·cases h
  ·rw [if_neg hl] at h
   match r, hr, h with
   | [], _, h => simp at h
   | n0 :: r2, hr, h =>
    have h0 := hr n0 (by simp)
    have h2 : Small r2 := fun n hn => hr n (by simp [hn])
    dsimp only at h
    split at h
    ·injection h with h
     subst h
     dsimp only
     refine ⟨hf, hk, ?_, fun hh => ?_, h2.take _, h2.drop _, ?_, ?_⟩
     ·simp only [List.length_take]; omega
     ·simp only [List.length_take] at hh; omega
     ·simp only [List.length_drop, List.length_cons]; omega
     ·simp only [List.length_take, List.length_drop, List.length_cons]; omega
    ·cases h
theorem decA_fuel : ∀ (n m : Nat) (seen : List Nat) (a : At) (l : List Nat), Small l → l.length ≤ n → l.length ≤ m → decA n seen a l = decA m seen a l
 | 0, 0, _, _, _, _, _, _ => rfl
 | 0, m + 1, seen, a, l, _, h, _ => by
  obtain rfl : l = [] := List.eq_nil_of_length_eq_zero (by omega)
  rfl
 | n + 1, 0, seen, a, l, _, _, h => by
  obtain rfl : l = [] := List.eq_nil_of_length_eq_zero (by omega)
  rfl
 | n + 1, m + 1, seen, a, l, hs, hn, hm => by
  unfold decA
  cases hi : itemOf l with
  | none => rfl
  | some x =>
   dsimp only
   obtain ⟨-, -, -, -, -, h6, h7, -⟩ := item_facts hs hi
   rw [decA_fuel n m (x.k :: seen) (layA a x.k x.v) x.r h6 (by omega) (by omega)]
def decF (seen : List Nat) (a : At) (l : List Nat) : No ⊕ At := decA l.length seen a l
theorem decF_nil (seen : List Nat) (a : At) : decF seen a [] = .inr (normA a) := rfl
theorem decF_none {seen : List Nat} {a : At} {l : List Nat} (hne : l ≠ []) (h : itemOf l = none) : decF seen a l = .inl ⟨3, 1, []⟩ := by
 unfold decF
 obtain ⟨n, hn⟩ : ∃ n, l.length = n + 1 := ⟨l.length - 1, by have := List.length_pos_iff.2 hne; omega⟩
 rw [hn]
 unfold decA
 rw [if_neg hne, h]
theorem decF_some {seen : List Nat} {a : At} {l : List Nat} {x : Item} (hs : Small l) (h : itemOf l = some x) :
  decF seen a l = if x.k ∈ seen then .inl ⟨3, 1, []⟩ else if subOf x.f x.k x.v = 0 then decF (x.k :: seen) (layA a x.k x.v) x.r else .inl (badN (subOf x.f x.k x.v) x) := by
 have hne : l ≠ [] := fun e => by subst e; cases h
 obtain ⟨-, -, -, -, -, h6, h7, -⟩ := item_facts hs h
 obtain ⟨n, hn⟩ : ∃ n, l.length = n + 1 := ⟨l.length - 1, by omega⟩
 have e := decA_fuel n x.r.length (x.k :: seen) (layA a x.k x.v) x.r h6 (by omega) (Nat.le_refl _)
 have hh : decA (n + 1) seen a l = if l = [] then .inr (normA a) else match itemOf l with
  | none => .inl ⟨3, 1, []⟩
  | some x => if x.k ∈ seen then .inl ⟨3, 1, []⟩ else if subOf x.f x.k x.v = 0 then decA n (x.k :: seen) (layA a x.k x.v) x.r else .inl (badN (subOf x.f x.k x.v) x) := rfl
 show decA l.length seen a l = _
 rw [hn, hh, if_neg hne, h]
 dsimp only
 rw [e]
 rfl
structure Fine (seen : List Nat) (a : At) : Prop where
 h0 : 0 ≤ a.has
 h5 : a.has < 512
 free : ∀ k : Nat, k ≤ 8 → k ∉ seen → a.has / 2 ^ k % 2 = 0
 zero : a.has % 2 = 0
 bk : bulk a.path ≤ 40000
 fit : FitS 4999 a.path
 cm : a.comms.length < 5000
theorem fine_zero : Fine [] zeroA := ⟨by decide, by decide, fun k _ _ => by simp [zeroA], by decide, by decide, (fun s hs => by cases hs), by decide⟩
theorem div_add_pow {h : Int} {j k : Nat} (hj : j ≤ 8) (hk : k ≤ 8) (hb : h / 2 ^ k % 2 = 0) (hne : j ≠ k) : (h + 2 ^ k) / 2 ^ j % 2 = h / 2 ^ j % 2 := by
 have hj2 : j = 0 ∨ j = 1 ∨ j = 2 ∨ j = 3 ∨ j = 4 ∨ j = 5 ∨ j = 6 ∨ j = 7 ∨ j = 8 := by omega
 have hk2 : k = 0 ∨ k = 1 ∨ k = 2 ∨ k = 3 ∨ k = 4 ∨ k = 5 ∨ k = 6 ∨ k = 7 ∨ k = 8 := by omega
 rcases hk2 with rfl | rfl | rfl | rfl | rfl | rfl | rfl | rfl | rfl <;> rcases hj2 with rfl | rfl | rfl | rfl | rfl | rfl | rfl | rfl | rfl <;> simp only [Int.reducePow] at hb ⊢ <;> first | omega | exact absurd rfl hne
theorem add_pow_lt {h : Int} {k : Nat} (h0 : 0 ≤ h) (h5 : h < 512) (hk : k ≤ 8) (hb : h / 2 ^ k % 2 = 0) : h + 2 ^ k < 512 := by
 have hk2 : k = 0 ∨ k = 1 ∨ k = 2 ∨ k = 3 ∨ k = 4 ∨ k = 5 ∨ k = 6 ∨ k = 7 ∨ k = 8 := by omega
 rcases hk2 with rfl | rfl | rfl | rfl | rfl | rfl | rfl | rfl | rfl <;> simp only [Int.reducePow] at hb ⊢ <;> omega
theorem Fine.lay {seen : List Nat} {a : At} (h : Fine seen a) {f k : Nat} {v : List Nat} (hs : Small v) (hl : v.length ≤ 65535) (hk : k ∉ seen) (hsub : subOf f k v = 0) : Fine (k :: seen) (layA a k v) := by
 by_cases hu : k < 1 ∨ 8 < k
 ·rw [show layA a k v = a by unfold layA; rw [if_pos hu]]
  exact ⟨h.h0, h.h5, fun j hj hn => h.free j hj (fun hm => hn (by simp [hm])), h.zero, h.bk, h.fit, h.cm⟩
 ·have hb := h.free k (by omega) hk
  have hp : (0 : Int) < 2 ^ k := by
   have h1 : (2 : Int) ^ k = ((2 ^ k : Nat) : Int) := by simp
   have := Nat.two_pow_pos k
   omega
  have e : (layA a k v).has = a.has + 2 ^ k := by unfold layA; rw [if_neg hu]
  have ep : (layA a k v).path = if k = 2 then (pathIs v).getD [] else a.path := by unfold layA; rw [if_neg hu]
  have ec : (layA a k v).comms = if k = 8 then quads v else a.comms := by unfold layA; rw [if_neg hu]
  have hq : ∀ p, pathIs v = some p → bulk p ≤ 40000 ∧ FitS 4999 p := fun p hp => by
   obtain ⟨h1, h2⟩ := pathIs_len hs hp
   exact ⟨by rw [bulk_is]; omega, fun s hs => Nat.le_trans (h2 s hs) (by decide)⟩
  have hq2 : bulk ((pathIs v).getD []) ≤ 40000 ∧ FitS 4999 ((pathIs v).getD []) := by
   cases hh : pathIs v with
   | none => exact ⟨Nat.zero_le _, fun s hs => by cases hs⟩
   | some p => exact hq p hh
  refine ⟨by rw [e]; have := h.h0; omega, by rw [e]; exact add_pow_lt h.h0 h.h5 (by omega) hb, fun j hj hn => ?_, ?_, ?_, ?_, ?_⟩
  ·rw [e]
   have hne : j ≠ k := fun e2 => hn (by simp [e2])
   rw [div_add_pow hj (by omega) hb hne]
   exact h.free j hj (fun hm => hn (by simp [hm]))
  ·rw [e]
   have h1 := div_add_pow (j := 0) (by omega) (show k ≤ 8 by omega) hb (by omega)
   simp only [Int.pow_zero, Int.ediv_one] at h1
   rw [h1]
   exact h.zero
  ·rw [ep]; split; exact hq2.1; exact h.bk
  ·rw [ep]; split; exact hq2.2; exact h.fit
  ·rw [ec]
   split
   ·rename_i h8
    subst h8
    unfold subOf at hsub
    rw [if_neg hu] at hsub
    split at hsub
    ·cases hsub
    ·split at hsub
     ·cases hsub
     ·rename_i h9
      have h9' : longB 8 v.length = true := by simpa using h9
      have h10 : v.length % 4 = 0 ∧ v.length ≤ 1020 := by simpa [longB] using h9'
      unfold quads
      rw [quadsN_len]
      omega
   ·exact h.cm
end Go.Proofs.YtlhdjdnflpilbaaGreatDoor.Att
