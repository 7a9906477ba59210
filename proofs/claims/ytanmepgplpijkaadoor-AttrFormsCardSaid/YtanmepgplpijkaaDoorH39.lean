/- The program's fill: an attribute's value, laid among the others. The program's fill: a path, communities; all types together. Plain facts on attributes that were cut. -/
import Derived.Test.YtanmepgplpijkaaDoorH38
import Derived.Test.YtanmepgplpijkaaDoorH11
import Derived.Test.YtanmepgplpijkaaDoorH22
import Derived.Test.YtanmepgplpijkaaDoorH36
import Derived.Test.YtanmepgplpijkaaDoorH14
namespace Go.Proofs.YtanmepgplpijkaaDoor.Att
open Go.RowKit Mem Segm Oct Seg
structure BoxA (W : World) (B N : Nat) (a : At) : Prop where
  ok : a.ok
  lt : B < N ∧ N ≤ W.heap.size
  box : ∃ Ap np cp Ac nc cc, Box9 W B 26 (.int .i64 a.has) (.int .i64 a.origin) (.slice Ap np cp) (.int .u32 a.hop) (.int .u32 a.med) (.int .u32 a.pref) (.int .u32 a.aas) (.int .u32 a.aid) (.slice Ac nc cc) ∧ OwnSegsF 78 N N W (.slice Ap np cp) a.path ∧ U32s W (.slice Ac nc cc) a.comms ∧ NewAt N (.slice Ac nc cc)
theorem u32_on {F : Nat → Prop} {W W' : World} {n : Nat} {v : Value} {l : List Nat} (h : U32s W v l) (hn : NewAt n v) (ho : Only F W W') (hF : ∀ k, F k → k < n) : U32s W' v l := by
  obtain ⟨⟨hl, A, c, rfl, hm, hc, hr⟩, hsm⟩ := h
  refine ⟨⟨hl, A, c, rfl, hm, hc, fun h0 => ?_⟩, hsm⟩
  obtain ⟨b, off, rfl, hlt, hcell⟩ := hr h0
  have hb := hn b off _ c rfl h0
  have hs := ho.block b hlt (fun hf => by have := hF b hf; omega)
  exact ⟨b, off, rfl, Nat.lt_of_lt_of_le hlt ho.size, fun i y hy => by rw [← hcell i y hy]; exact World.cell?_of_block hs⟩
theorem BoxA.on {F : Nat → Prop} {W W' : World} {B N : Nat} {a : At} (h : BoxA W B N a) (ho : Only F W W') (hF : ∀ k, F k → k < N ∧ k ≠ B) : BoxA W' B N a := by
  obtain ⟨h1, h2, Ap, np, cp, Ac, nc, cc, h3, h4, h5, h6⟩ := h
  exact ⟨h1, ⟨h2.1, Nat.le_trans h2.2 ho.size⟩, Ap, np, cp, Ac, nc, cc, ⟨(ho.block B h3.lt (fun hf => (hF B hf).2 rfl)).trans h3.blk⟩, segs_on h4 ho (fun k hk => (hF k hk).1), u32_on h5 h6 ho (fun k hk => (hF k hk).1), h6⟩
theorem BoxA.below {W W' : World} {B N : Nat} {a : At} (h : BoxA W B N a) (hb : Below W.heap.size W W') : BoxA W' B N a := h.on (F := fun _ => False) (Only.of hb) (fun _ hk => hk.elim)
def fillN (k : Nat) (v : List Nat) : Nat :=
  if k = 1 then (if 2 < val v then 6 else 0)
  else if k = 2 then (match pathIs v with | some p => if goodP (normS p) && decide (lens p ≤ 2000) then 0 else 11 | none => 11)
  else if k = 3 then (if hopB (val v) then 0 else 8)
  else 0
def fillA (a : At) (k : Nat) (v : List Nat) : At :=
  ⟨a.has, if k = 1 then (val v : Nat) else a.origin, if k = 2 then (pathIs v).getD [] else a.path, if k = 3 then val v else a.hop, if k = 4 then val v else a.med, if k = 5 then val v else a.pref,
    if k = 7 then val (v.take 4) else a.aas, if k = 7 then val (v.drop 4) else a.aid, if k = 8 then quads v else a.comms⟩
def FillF (B N : Nat) (a : At) (k : Nat) (v : List Nat) (w : World) (e : Ending) (w' : World) : Prop :=
  e = .returned (.int .i64 (fillN k v : Nat)) ∧ Only (fun q => q = B) w w' ∧ (fillN k v = 0 → BoxA w' B N (fillA a k v))
theorem num_all {v : List Nat} {k : Nat} (h : v.length = k) : (Rd.mk v false).num (k : Nat) = val v := by
  have hf := (fit_go (l := v) (n := k) (by omega)).2
  unfold Rd.num
  rw [hf, ← h, List.take_length]
theorem n9 {h o : Int} {hp md pr ag ai np cp nc cc : Nat} {Ap Ac : Option Addr} : ∀ u ∈ [Value.int .i64 h, .int .i64 o, .slice Ap np cp, .int .u32 hp, .int .u32 md, .int .u32 pr, .int .u32 ag, .int .u32 ai, .slice Ac nc cc], No8 u := fun u hu => by
  simp only [List.mem_cons, List.not_mem_nil, or_false] at hu
  rcases hu with rfl | rfl | rfl | rfl | rfl | rfl | rfl | rfl | rfl
  · exact no8_i _
  · exact no8_i _
  · exact no8_s _ _ _
  · exact no8_u _
  · exact no8_u _
  · exact no8_u _
  · exact no8_u _
  · exact no8_u _
  · exact no8_s _ _ _
theorem val32 {v : List Nat} (hs : Small v) (h : v.length ≤ 4) : val v < 4294967296 := by
  have h1 := val_lt 4 hs
  rw [List.take_of_length_le h] at h1
  exact h1
set_option maxRecDepth 100000 in
set_option maxHeartbeats 4000000 in
theorem fill4 (f : Int) (A : Option Addr) (c : Nat) (v : List Nat) (w : World) (B N : Nat) (a : At) (hA : BoxA w B N a) (hv : U8s w (.slice A v.length c) v) (hl : v.length = 4) :
    Calls Tryd.prog 74 #[.agg #[.int .i64 f, .int .i64 4, .slice A v.length c], .pointer (some ⟨B, 0, none⟩)] w (FillF B N a 4 v w) := by
  obtain ⟨hok, hlt, Ap, np, cp, Ac, nc, cc, h9, hp, hc, hn⟩ := hA
  have hb1 : Below w.heap.size w (w.alloc (.cells #[.int .i64 f, .int .i64 4, .slice A v.length c] 68)) := (Below.refl _ _).alloc (Nat.le_refl _) _
  have CN := Go.Lib.hid (new_any _ v _ (hv.keep hb1) (by omega))
  have HS := Go.Lib.hid hv.2
  have HOK := Go.Lib.hid hok
  have HP := Go.Lib.hid hp
  have HC := Go.Lib.hid (And.intro hc hn)
  have H9 := Go.Lib.hid h9
  have q3 := Box3.new w 68 (.int .i64 f) (.int .i64 4) (.slice A v.length c)
  obtain ⟨d0, d1, d2⟩ := q3.cells
  obtain ⟨hh, ho, hpt, hh3, hh4, hh5, hh6, hh7, hh8⟩ := a
  dsimp only at hp h9 hc hok HP HC H9 HOK
  clear hv hb1 hp hc hn h9 hok q3
  have HV := Go.Lib.hid (val32 HS.out (by omega))
  have CU := Go.Lib.hid (fun (b N : Nat) (W : World) (h : R W (w.heap.size + 1) N (.pointer (some ⟨b, 0, none⟩)) v false (fun q => q = b)) => show Calls Tryd.prog 77 #[.pointer (some ⟨b, 0, none⟩)] W (fun e w' => e = .returned (.int .u32 (val v : Nat)) ∧ R w' (w.heap.size + 1) N (.pointer (some ⟨b, 0, none⟩)) ((Rd.mk v false).go 4).l ((Rd.mk v false).go 4).b (fun q => q = b) ∧ Only (fun q => q = b) W w') from by
    rw [← num_all hl]
    exact u32_any _ _ _ v false _ W HS.out h)
  clear hl
  go_enter Tryd.func74, Tryd.ntmps74
  go_wp2_with (first
    | (go_at_call 44; first | (refine (CN.out).mono ?_; rintro e x ⟨b, rfl, hR, hb⟩; have S1 := Go.Lib.hid (fi_new (x := ⟨v, false⟩) H9.out n9 hR hb); clear hR hb d0 d1 d2; obtain ⟨d0, d1, d2⟩ := S1.out.b3.cells; obtain ⟨c0, c1, c2, c3, c4, c5, c6, c7, c8⟩ := S1.out.b9.cells; have fB := S1.out.b9.free) | (trace "FELL N"; trace_state; fail_if_success skip))
    | (have h := S1.out; go_at_call 77; first | (refine ((Go.Lib.hid (CU.out _ _)).out _ h.rd).mono ?_; rintro e x ⟨rfl, hR, ho⟩; have S2 := Go.Lib.hid (h.read hR ho); clear hR ho h S1; clear d0 d1 d2 c0 c1 c2 c3 c4 c5 c6 c7 c8 fB; obtain ⟨d0, d1, d2⟩ := S2.out.b3.cells; obtain ⟨c0, c1, c2, c3, c4, c5, c6, c7, c8⟩ := S2.out.b9.cells; have fB := S2.out.b9.free; have S3 := Go.Lib.hid (S2.out.set4 (.int .u32 (val v : Nat)) (no8_u _))) | (trace "FELL U32"; trace_state; fail_if_success skip)))
  go_ret
  refine ⟨rfl, S3.out.on, fun _ => ?_⟩
  exact ⟨⟨HOK.out.1, HOK.out.2.1, HOK.out.2.2.1, HV.out, HOK.out.2.2.2.2⟩, ⟨hlt.1, Nat.le_trans hlt.2 S3.out.on.size⟩, Ap, np, cp, Ac, nc, cc, S3.out.b9, segs_on HP.out S3.out.on (fun k e => by subst e; exact hlt.1), u32_on HC.out.1 HC.out.2 S3.out.on (fun k e => by subst e; exact hlt.1), HC.out.2⟩
set_option maxRecDepth 100000 in
set_option maxHeartbeats 4000000 in
theorem fill5 (f : Int) (A : Option Addr) (c : Nat) (v : List Nat) (w : World) (B N : Nat) (a : At) (hA : BoxA w B N a) (hv : U8s w (.slice A v.length c) v) (hl : v.length = 4) :
    Calls Tryd.prog 74 #[.agg #[.int .i64 f, .int .i64 5, .slice A v.length c], .pointer (some ⟨B, 0, none⟩)] w (FillF B N a 5 v w) := by
  obtain ⟨hok, hlt, Ap, np, cp, Ac, nc, cc, h9, hp, hc, hn⟩ := hA
  have hb1 : Below w.heap.size w (w.alloc (.cells #[.int .i64 f, .int .i64 5, .slice A v.length c] 68)) := (Below.refl _ _).alloc (Nat.le_refl _) _
  have CN := Go.Lib.hid (new_any _ v _ (hv.keep hb1) (by omega))
  have HS := Go.Lib.hid hv.2
  have HOK := Go.Lib.hid hok
  have HP := Go.Lib.hid hp
  have HC := Go.Lib.hid (And.intro hc hn)
  have H9 := Go.Lib.hid h9
  have q3 := Box3.new w 68 (.int .i64 f) (.int .i64 5) (.slice A v.length c)
  obtain ⟨d0, d1, d2⟩ := q3.cells
  obtain ⟨hh, ho, hpt, hh3, hh4, hh5, hh6, hh7, hh8⟩ := a
  dsimp only at hp h9 hc hok HP HC H9 HOK
  clear hv hb1 hp hc hn h9 hok q3
  have HV := Go.Lib.hid (val32 HS.out (by omega))
  have CU := Go.Lib.hid (fun (b N : Nat) (W : World) (h : R W (w.heap.size + 1) N (.pointer (some ⟨b, 0, none⟩)) v false (fun q => q = b)) => show Calls Tryd.prog 77 #[.pointer (some ⟨b, 0, none⟩)] W (fun e w' => e = .returned (.int .u32 (val v : Nat)) ∧ R w' (w.heap.size + 1) N (.pointer (some ⟨b, 0, none⟩)) ((Rd.mk v false).go 4).l ((Rd.mk v false).go 4).b (fun q => q = b) ∧ Only (fun q => q = b) W w') from by
    rw [← num_all hl]
    exact u32_any _ _ _ v false _ W HS.out h)
  clear hl
  go_enter Tryd.func74, Tryd.ntmps74
  go_wp2_with (first
    | (go_at_call 44; first | (refine (CN.out).mono ?_; rintro e x ⟨b, rfl, hR, hb⟩; have S1 := Go.Lib.hid (fi_new (x := ⟨v, false⟩) H9.out n9 hR hb); clear hR hb d0 d1 d2; obtain ⟨d0, d1, d2⟩ := S1.out.b3.cells; obtain ⟨c0, c1, c2, c3, c4, c5, c6, c7, c8⟩ := S1.out.b9.cells; have fB := S1.out.b9.free) | (trace "FELL N"; trace_state; fail_if_success skip))
    | (have h := S1.out; go_at_call 77; first | (refine ((Go.Lib.hid (CU.out _ _)).out _ h.rd).mono ?_; rintro e x ⟨rfl, hR, ho⟩; have S2 := Go.Lib.hid (h.read hR ho); clear hR ho h S1; clear d0 d1 d2 c0 c1 c2 c3 c4 c5 c6 c7 c8 fB; obtain ⟨d0, d1, d2⟩ := S2.out.b3.cells; obtain ⟨c0, c1, c2, c3, c4, c5, c6, c7, c8⟩ := S2.out.b9.cells; have fB := S2.out.b9.free; have S3 := Go.Lib.hid (S2.out.set5 (.int .u32 (val v : Nat)) (no8_u _))) | (trace "FELL U32"; trace_state; fail_if_success skip)))
  go_ret
  refine ⟨rfl, S3.out.on, fun _ => ?_⟩
  exact ⟨⟨HOK.out.1, HOK.out.2.1, HOK.out.2.2.1, HOK.out.2.2.2.1, HV.out, HOK.out.2.2.2.2.2⟩, ⟨hlt.1, Nat.le_trans hlt.2 S3.out.on.size⟩, Ap, np, cp, Ac, nc, cc, S3.out.b9, segs_on HP.out S3.out.on (fun k e => by subst e; exact hlt.1), u32_on HC.out.1 HC.out.2 S3.out.on (fun k e => by subst e; exact hlt.1), HC.out.2⟩
set_option maxRecDepth 100000 in
set_option maxHeartbeats 4000000 in
theorem fill1 (f : Int) (A : Option Addr) (c : Nat) (v : List Nat) (w : World) (B N : Nat) (a : At) (hA : BoxA w B N a) (hv : U8s w (.slice A v.length c) v) (hl : v.length = 1) :
    Calls Tryd.prog 74 #[.agg #[.int .i64 f, .int .i64 1, .slice A v.length c], .pointer (some ⟨B, 0, none⟩)] w (FillF B N a 1 v w) := by
  obtain ⟨hok, hlt, Ap, np, cp, Ac, nc, cc, h9, hp, hc, hn⟩ := hA
  have hb1 : Below w.heap.size w (w.alloc (.cells #[.int .i64 f, .int .i64 1, .slice A v.length c] 68)) := (Below.refl _ _).alloc (Nat.le_refl _) _
  have CN := Go.Lib.hid (new_any _ v _ (hv.keep hb1) (by omega))
  have HS := Go.Lib.hid hv.2
  have HOK := Go.Lib.hid hok
  have HP := Go.Lib.hid hp
  have HC := Go.Lib.hid (And.intro hc hn)
  have H9 := Go.Lib.hid h9
  have q3 := Box3.new w 68 (.int .i64 f) (.int .i64 1) (.slice A v.length c)
  obtain ⟨d0, d1, d2⟩ := q3.cells
  obtain ⟨hh, ho, hpt, hh3, hh4, hh5, hh6, hh7, hh8⟩ := a
  dsimp only at hp h9 hc hok HP HC H9 HOK
  clear hv hb1 hp hc hn h9 hok q3
  have CU := Go.Lib.hid (fun (b N : Nat) (W : World) (h : R W (w.heap.size + 1) N (.pointer (some ⟨b, 0, none⟩)) v false (fun q => q = b)) => show Calls Tryd.prog 53 #[.pointer (some ⟨b, 0, none⟩)] W (fun e w' => e = .returned (.int .i64 (val v : Nat)) ∧ R w' (w.heap.size + 1) N (.pointer (some ⟨b, 0, none⟩)) ((Rd.mk v false).go 1).l ((Rd.mk v false).go 1).b (fun q => q = b) ∧ Only (fun q => q = b) W w') from by
    rw [← num_all hl]
    exact u8_any _ _ _ v false _ W HS.out h)
  have HV := Go.Lib.hid (show (Lit.int .i64 ((val v : Nat) : Int)).wf = true by
    have := val32 HS.out (by omega)
    simp [Lit.wf, IntKind.min, IntKind.max, IntKind.signed, IntKind.bits]; omega)
  clear hl
  by_cases h2 : 2 < val v
  · have z1 : ((val v : Nat) : Int) > 2 := by omega
    have HE := Go.Lib.hid (show fillN 1 v = 6 by simp [fillN, h2])
    clear h2
    unfold FillF
    rw [HE.out]
    go_enter Tryd.func74, Tryd.ntmps74
    go_wp2_with (first
      | (go_at_call 44; first | (refine (CN.out).mono ?_; rintro e x ⟨b, rfl, hR, hb⟩; have S1 := Go.Lib.hid (fi_new (x := ⟨v, false⟩) H9.out n9 hR hb); clear hR hb d0 d1 d2; obtain ⟨d0, d1, d2⟩ := S1.out.b3.cells; obtain ⟨c0, c1, c2, c3, c4, c5, c6, c7, c8⟩ := S1.out.b9.cells; have fB := S1.out.b9.free) | (trace "FELL N"; trace_state; fail_if_success skip))
      | (have h := S1.out; go_at_call 53; first | (refine ((Go.Lib.hid (CU.out _ _)).out _ h.rd).mono ?_; rintro e x ⟨rfl, hR, ho⟩; have S2 := Go.Lib.hid (h.read hR ho); clear hR ho h S1; clear d0 d1 d2 c0 c1 c2 c3 c4 c5 c6 c7 c8 fB; obtain ⟨d0, d1, d2⟩ := S2.out.b3.cells; obtain ⟨c0, c1, c2, c3, c4, c5, c6, c7, c8⟩ := S2.out.b9.cells; have fB := S2.out.b9.free; have S3 := Go.Lib.hid (S2.out.set1 (.int .i64 (val v : Nat)) (no8_i _)); obtain ⟨e0, e1, e2, e3, e4, e5, e6, e7, e8⟩ := S3.out.b9.cells) | (trace "FELL U8"; trace_state; fail_if_success skip)))
    go_ret
    refine ⟨rfl, S3.out.on, fun hz => ?_⟩
    cases hz
  · have z1 : decide ((2 : Int) < (val v : Nat)) = false := decide_eq_false (by omega)
    have HE := Go.Lib.hid (show fillN 1 v = 0 by simp [fillN, h2])
    clear h2
    unfold FillF
    rw [HE.out]
    go_enter Tryd.func74, Tryd.ntmps74
    go_wp2_with (first
      | (go_at_call 44; first | (refine (CN.out).mono ?_; rintro e x ⟨b, rfl, hR, hb⟩; have S1 := Go.Lib.hid (fi_new (x := ⟨v, false⟩) H9.out n9 hR hb); clear hR hb d0 d1 d2; obtain ⟨d0, d1, d2⟩ := S1.out.b3.cells; obtain ⟨c0, c1, c2, c3, c4, c5, c6, c7, c8⟩ := S1.out.b9.cells; have fB := S1.out.b9.free) | (trace "FELL N"; trace_state; fail_if_success skip))
      | (have h := S1.out; go_at_call 53; first | (refine ((Go.Lib.hid (CU.out _ _)).out _ h.rd).mono ?_; rintro e x ⟨rfl, hR, ho⟩; have S2 := Go.Lib.hid (h.read hR ho); clear hR ho h S1; clear d0 d1 d2 c0 c1 c2 c3 c4 c5 c6 c7 c8 fB; obtain ⟨d0, d1, d2⟩ := S2.out.b3.cells; obtain ⟨c0, c1, c2, c3, c4, c5, c6, c7, c8⟩ := S2.out.b9.cells; have fB := S2.out.b9.free; have S3 := Go.Lib.hid (S2.out.set1 (.int .i64 (val v : Nat)) (no8_i _)); obtain ⟨e0, e1, e2, e3, e4, e5, e6, e7, e8⟩ := S3.out.b9.cells) | (trace "FELL U8"; trace_state; fail_if_success skip)))
    go_ret
    refine ⟨rfl, S3.out.on, fun hz => ?_⟩
    exact ⟨⟨HOK.out.1, HV.out, HOK.out.2.2⟩, ⟨hlt.1, Nat.le_trans hlt.2 S3.out.on.size⟩, Ap, np, cp, Ac, nc, cc, S3.out.b9, segs_on HP.out S3.out.on (fun k e => by subst e; exact hlt.1), u32_on HC.out.1 HC.out.2 S3.out.on (fun k e => by subst e; exact hlt.1), HC.out.2⟩
set_option maxRecDepth 100000 in
set_option maxHeartbeats 4000000 in
theorem fill3 (f : Int) (A : Option Addr) (c : Nat) (v : List Nat) (w : World) (B N : Nat) (a : At) (hA : BoxA w B N a) (hv : U8s w (.slice A v.length c) v) (hl : v.length = 4) :
    Calls Tryd.prog 74 #[.agg #[.int .i64 f, .int .i64 3, .slice A v.length c], .pointer (some ⟨B, 0, none⟩)] w (FillF B N a 3 v w) := by
  obtain ⟨hok, hlt, Ap, np, cp, Ac, nc, cc, h9, hp, hc, hn⟩ := hA
  have hb1 : Below w.heap.size w (w.alloc (.cells #[.int .i64 f, .int .i64 3, .slice A v.length c] 68)) := (Below.refl _ _).alloc (Nat.le_refl _) _
  have CN := Go.Lib.hid (new_any _ v _ (hv.keep hb1) (by omega))
  have HS := Go.Lib.hid hv.2
  have HOK := Go.Lib.hid hok
  have HP := Go.Lib.hid hp
  have HC := Go.Lib.hid (And.intro hc hn)
  have H9 := Go.Lib.hid h9
  have q3 := Box3.new w 68 (.int .i64 f) (.int .i64 3) (.slice A v.length c)
  obtain ⟨d0, d1, d2⟩ := q3.cells
  obtain ⟨hh, ho, hpt, hh3, hh4, hh5, hh6, hh7, hh8⟩ := a
  dsimp only at hp h9 hc hok HP HC H9 HOK
  clear hv hb1 hp hc hn h9 hok q3
  have HV := Go.Lib.hid (val32 HS.out (by omega))
  have CU := Go.Lib.hid (fun (b N : Nat) (W : World) (h : R W (w.heap.size + 1) N (.pointer (some ⟨b, 0, none⟩)) v false (fun q => q = b)) => show Calls Tryd.prog 77 #[.pointer (some ⟨b, 0, none⟩)] W (fun e w' => e = .returned (.int .u32 (val v : Nat)) ∧ R w' (w.heap.size + 1) N (.pointer (some ⟨b, 0, none⟩)) ((Rd.mk v false).go 4).l ((Rd.mk v false).go 4).b (fun q => q = b) ∧ Only (fun q => q = b) W w') from by
    rw [← num_all hl]
    exact u32_any _ _ _ v false _ W HS.out h)
  have CH := Go.Lib.hid (fun W => hop_any (val v) W HV.out)
  clear hl
  cases hh2 : hopB (val v) with
  | false =>
    have HE := Go.Lib.hid (show fillN 3 v = 8 by simp [fillN, hh2])
    rw [hh2] at CH
    clear hh2
    unfold FillF
    rw [HE.out]
    go_enter Tryd.func74, Tryd.ntmps74
    go_wp2_with (first
      | (go_at_call 44; first | (refine (CN.out).mono ?_; rintro e x ⟨b, rfl, hR, hb⟩; have S1 := Go.Lib.hid (fi_new (x := ⟨v, false⟩) H9.out n9 hR hb); clear hR hb d0 d1 d2; obtain ⟨d0, d1, d2⟩ := S1.out.b3.cells; obtain ⟨c0, c1, c2, c3, c4, c5, c6, c7, c8⟩ := S1.out.b9.cells; have fB := S1.out.b9.free) | (trace "FELL N"; trace_state; fail_if_success skip))
      | (have h := S1.out; go_at_call 77; first | (refine ((Go.Lib.hid (CU.out _ _)).out _ h.rd).mono ?_; rintro e x ⟨rfl, hR, ho⟩; have S2 := Go.Lib.hid (h.read hR ho); clear hR ho h S1; clear d0 d1 d2 c0 c1 c2 c3 c4 c5 c6 c7 c8 fB; obtain ⟨d0, d1, d2⟩ := S2.out.b3.cells; obtain ⟨c0, c1, c2, c3, c4, c5, c6, c7, c8⟩ := S2.out.b9.cells; have fB := S2.out.b9.free; have S3 := Go.Lib.hid (S2.out.set3 (.int .u32 (val v : Nat)) (no8_u _)); obtain ⟨e0, e1, e2, e3, e4, e5, e6, e7, e8⟩ := S3.out.b9.cells) | (trace "FELL U32"; trace_state; fail_if_success skip))
      | (go_at_call 15; first | (refine (CH.out _).mono ?_; rintro e x ⟨rfl, hb⟩; have S4 := Go.Lib.hid (S3.out.below hb); clear hb) | (trace "FELL H"; trace_state; fail_if_success skip)))
    go_ret
    refine ⟨rfl, S4.out.on, fun hz => ?_⟩
    cases hz
  | true =>
    have HE := Go.Lib.hid (show fillN 3 v = 0 by simp [fillN, hh2])
    rw [hh2] at CH
    clear hh2
    unfold FillF
    rw [HE.out]
    go_enter Tryd.func74, Tryd.ntmps74
    go_wp2_with (first
      | (go_at_call 44; first | (refine (CN.out).mono ?_; rintro e x ⟨b, rfl, hR, hb⟩; have S1 := Go.Lib.hid (fi_new (x := ⟨v, false⟩) H9.out n9 hR hb); clear hR hb d0 d1 d2; obtain ⟨d0, d1, d2⟩ := S1.out.b3.cells; obtain ⟨c0, c1, c2, c3, c4, c5, c6, c7, c8⟩ := S1.out.b9.cells; have fB := S1.out.b9.free) | (trace "FELL N"; trace_state; fail_if_success skip))
      | (have h := S1.out; go_at_call 77; first | (refine ((Go.Lib.hid (CU.out _ _)).out _ h.rd).mono ?_; rintro e x ⟨rfl, hR, ho⟩; have S2 := Go.Lib.hid (h.read hR ho); clear hR ho h S1; clear d0 d1 d2 c0 c1 c2 c3 c4 c5 c6 c7 c8 fB; obtain ⟨d0, d1, d2⟩ := S2.out.b3.cells; obtain ⟨c0, c1, c2, c3, c4, c5, c6, c7, c8⟩ := S2.out.b9.cells; have fB := S2.out.b9.free; have S3 := Go.Lib.hid (S2.out.set3 (.int .u32 (val v : Nat)) (no8_u _)); obtain ⟨e0, e1, e2, e3, e4, e5, e6, e7, e8⟩ := S3.out.b9.cells) | (trace "FELL U32"; trace_state; fail_if_success skip))
      | (go_at_call 15; first | (refine (CH.out _).mono ?_; rintro e x ⟨rfl, hb⟩; have S4 := Go.Lib.hid (S3.out.below hb); clear hb) | (trace "FELL H"; trace_state; fail_if_success skip)))
    go_ret
    refine ⟨rfl, S4.out.on, fun hz => ?_⟩
    exact ⟨⟨HOK.out.1, HOK.out.2.1, HV.out, HOK.out.2.2.2⟩, ⟨hlt.1, Nat.le_trans hlt.2 S4.out.on.size⟩, Ap, np, cp, Ac, nc, cc, S4.out.b9, segs_on HP.out S4.out.on (fun k e => by subst e; exact hlt.1), u32_on HC.out.1 HC.out.2 S4.out.on (fun k e => by subst e; exact hlt.1), HC.out.2⟩
set_option maxRecDepth 100000 in
set_option maxHeartbeats 4000000 in
theorem fill6 (f : Int) (A : Option Addr) (c : Nat) (v : List Nat) (w : World) (B N : Nat) (a : At) (hA : BoxA w B N a) (hv : U8s w (.slice A v.length c) v) (hl : v.length = 0) :
    Calls Tryd.prog 74 #[.agg #[.int .i64 f, .int .i64 6, .slice A v.length c], .pointer (some ⟨B, 0, none⟩)] w (FillF B N a 6 v w) := by
  obtain ⟨hok, hlt, Ap, np, cp, Ac, nc, cc, h9, hp, hc, hn⟩ := hA
  have hb1 : Below w.heap.size w (w.alloc (.cells #[.int .i64 f, .int .i64 6, .slice A v.length c] 68)) := (Below.refl _ _).alloc (Nat.le_refl _) _
  have CN := Go.Lib.hid (new_any _ v _ (hv.keep hb1) (by omega))
  have HOK := Go.Lib.hid hok
  have HP := Go.Lib.hid hp
  have HC := Go.Lib.hid (And.intro hc hn)
  have H9 := Go.Lib.hid h9
  have q3 := Box3.new w 68 (.int .i64 f) (.int .i64 6) (.slice A v.length c)
  obtain ⟨d0, d1, d2⟩ := q3.cells
  obtain ⟨hh, ho, hpt, hh3, hh4, hh5, hh6, hh7, hh8⟩ := a
  dsimp only at hp h9 hc hok HP HC H9 HOK
  clear hv hb1 hp hc hn h9 hok q3
  clear hl
  go_enter Tryd.func74, Tryd.ntmps74
  go_wp2_with (go_at_call 44; first | (refine (CN.out).mono ?_; rintro e x ⟨b, rfl, hR, hb⟩; have S1 := Go.Lib.hid (fi_new (x := ⟨v, false⟩) H9.out n9 hR hb); clear hR hb d0 d1 d2; obtain ⟨d0, d1, d2⟩ := S1.out.b3.cells; obtain ⟨c0, c1, c2, c3, c4, c5, c6, c7, c8⟩ := S1.out.b9.cells; have fB := S1.out.b9.free) | (trace "FELL N"; trace_state; fail_if_success skip))
  go_ret
  refine ⟨rfl, S1.out.on, fun _ => ?_⟩
  exact ⟨HOK.out, ⟨hlt.1, Nat.le_trans hlt.2 S1.out.on.size⟩, Ap, np, cp, Ac, nc, cc, S1.out.b9, segs_on HP.out S1.out.on (fun k e => by subst e; exact hlt.1), u32_on HC.out.1 HC.out.2 S1.out.on (fun k e => by subst e; exact hlt.1), HC.out.2⟩
set_option maxRecDepth 100000 in
set_option maxHeartbeats 4000000 in
theorem fill7 (f : Int) (A : Option Addr) (c : Nat) (v : List Nat) (w : World) (B N : Nat) (a : At) (hA : BoxA w B N a) (hv : U8s w (.slice A v.length c) v) (hl : v.length = 8) :
    Calls Tryd.prog 74 #[.agg #[.int .i64 f, .int .i64 7, .slice A v.length c], .pointer (some ⟨B, 0, none⟩)] w (FillF B N a 7 v w) := by
  obtain ⟨hok, hlt, Ap, np, cp, Ac, nc, cc, h9, hp, hc, hn⟩ := hA
  have hb1 : Below w.heap.size w (w.alloc (.cells #[.int .i64 f, .int .i64 7, .slice A v.length c] 68)) := (Below.refl _ _).alloc (Nat.le_refl _) _
  have CN := Go.Lib.hid (new_any _ v _ (hv.keep hb1) (by omega))
  have HS := Go.Lib.hid hv.2
  have HOK := Go.Lib.hid hok
  have HP := Go.Lib.hid hp
  have HC := Go.Lib.hid (And.intro hc hn)
  have H9 := Go.Lib.hid h9
  have q3 := Box3.new w 68 (.int .i64 f) (.int .i64 7) (.slice A v.length c)
  obtain ⟨d0, d1, d2⟩ := q3.cells
  obtain ⟨hh, ho, hpt, hh3, hh4, hh5, hh6, hh7, hh8⟩ := a
  dsimp only at hp h9 hc hok HP HC H9 HOK
  clear hv hb1 hp hc hn h9 hok q3
  have HV := Go.Lib.hid (val32 (HS.out.take 4) (List.length_take_le _ _))
  have HV2 := Go.Lib.hid (val32 (HS.out.drop 4) (by rw [List.length_drop]; omega))
  have CU := Go.Lib.hid (fun (b N : Nat) (W : World) (h : R W (w.heap.size + 1) N (.pointer (some ⟨b, 0, none⟩)) v false (fun q => q = b)) => show Calls Tryd.prog 77 #[.pointer (some ⟨b, 0, none⟩)] W (fun e w' => e = .returned (.int .u32 (val (v.take 4) : Nat)) ∧ R w' (w.heap.size + 1) N (.pointer (some ⟨b, 0, none⟩)) (Rd.mk (v.drop 4) false).l (Rd.mk (v.drop 4) false).b (fun q => q = b) ∧ Only (fun q => q = b) W w') from by
    have h1 := u32_any _ _ _ v false _ W HS.out h
    unfold NumF at h1
    have e1 := fit_go (l := v) (n := 4) (by omega)
    rw [show got v false 4 = v.take 4 from e1.2, show rest v false 4 = v.drop 4 from congrArg Rd.l e1.1, show fails v false 4 = false from congrArg Rd.b e1.1] at h1
    exact h1)
  have CV := Go.Lib.hid (fun (b N : Nat) (W : World) (h : R W (w.heap.size + 1) N (.pointer (some ⟨b, 0, none⟩)) (v.drop 4) false (fun q => q = b)) => show Calls Tryd.prog 77 #[.pointer (some ⟨b, 0, none⟩)] W (fun e w' => e = .returned (.int .u32 (val (v.drop 4) : Nat)) ∧ R w' (w.heap.size + 1) N (.pointer (some ⟨b, 0, none⟩)) ((Rd.mk (v.drop 4) false).go 4).l ((Rd.mk (v.drop 4) false).go 4).b (fun q => q = b) ∧ Only (fun q => q = b) W w') from by
    rw [← num_all (v := v.drop 4) (k := 4) (by rw [List.length_drop]; omega)]
    exact u32_any _ _ _ (v.drop 4) false _ W (HS.out.drop 4) h)
  clear hl
  go_enter Tryd.func74, Tryd.ntmps74
  go_wp2_with (first
    | (go_at_call 44; first | (refine (CN.out).mono ?_; rintro e x ⟨b, rfl, hR, hb⟩; have S1 := Go.Lib.hid (fi_new (x := ⟨v, false⟩) H9.out n9 hR hb); clear hR hb d0 d1 d2; obtain ⟨d0, d1, d2⟩ := S1.out.b3.cells; obtain ⟨c0, c1, c2, c3, c4, c5, c6, c7, c8⟩ := S1.out.b9.cells; have fB := S1.out.b9.free) | (trace "FELL N"; trace_state; fail_if_success skip))
    | (have h := S1.out; go_at_call 77; first | (refine ((Go.Lib.hid (CU.out _ _)).out _ h.rd).mono ?_; rintro e x ⟨rfl, hR, ho⟩; have S2 := Go.Lib.hid (h.read (y := ⟨v.drop 4, false⟩) hR ho); clear hR ho h S1; clear d0 d1 d2 c0 c1 c2 c3 c4 c5 c6 c7 c8 fB; obtain ⟨d0, d1, d2⟩ := S2.out.b3.cells; obtain ⟨c0, c1, c2, c3, c4, c5, c6, c7, c8⟩ := S2.out.b9.cells; have fB := S2.out.b9.free; have S3 := Go.Lib.hid (S2.out.set6 (.int .u32 (val (v.take 4) : Nat)) (no8_u _)); clear S2; obtain ⟨e0, e1, e2, e3, e4, e5, e6, e7, e8⟩ := S3.out.b9.cells; have fE := S3.out.b9.free) | (trace "FELL U32"; trace_state; fail_if_success skip))
    | (have h := S3.out; go_at_call 77; first | (refine (CV.out _ _ _ h.rd).mono ?_; rintro e x ⟨rfl, hR, ho⟩; have S4 := Go.Lib.hid (h.read (y := (Rd.mk (v.drop 4) false).go 4) hR ho); clear hR ho h S3; clear d0 d1 d2 c0 c1 c2 c3 c4 c5 c6 c7 c8 fB e0 e1 e2 e3 e4 e5 e6 e7 e8 fE; obtain ⟨d0, d1, d2⟩ := S4.out.b3.cells; obtain ⟨c0, c1, c2, c3, c4, c5, c6, c7, c8⟩ := S4.out.b9.cells; have fB := S4.out.b9.free; have S5 := Go.Lib.hid (S4.out.set7 (.int .u32 (val (v.drop 4) : Nat)) (no8_u _))) | (trace "FELL V"; trace_state; fail_if_success skip)))
  go_ret
  refine ⟨rfl, S5.out.on, fun _ => ?_⟩
  exact ⟨⟨HOK.out.1, HOK.out.2.1, HOK.out.2.2.1, HOK.out.2.2.2.1, HOK.out.2.2.2.2.1, HV.out, HV2.out⟩, ⟨hlt.1, Nat.le_trans hlt.2 S5.out.on.size⟩, Ap, np, cp, Ac, nc, cc, S5.out.b9, segs_on HP.out S5.out.on (fun k e => by subst e; exact hlt.1), u32_on HC.out.1 HC.out.2 S5.out.on (fun k e => by subst e; exact hlt.1), HC.out.2⟩
end Go.Proofs.YtanmepgplpijkaaDoor.Att
namespace Go.Proofs.YtanmepgplpijkaaDoor.Att
open Go.RowKit Mem Segm Oct Seg
theorem pathOf_len : ∀ (n : Nat) (b : List Nat) (p : List Piece), Small b → b.length ≤ n → pathOf n b = some p → 4 * lens p + 2 * p.length = b.length ∧ FitS 255 p
  | 0, b, p, _, hn, h => by
    obtain rfl : b = [] := List.eq_nil_of_length_eq_zero (by omega)
    have h0 : (some [] : Option (List Piece)) = some p := h
    injection h0 with h0
    subst h0
    exact ⟨rfl, fun s hs => by cases hs⟩
  | n + 1, [], p, _, _, h => by
    have h0 : (some [] : Option (List Piece)) = some p := h
    injection h0 with h0
    subst h0
    exact ⟨rfl, fun s hs => by cases hs⟩
  | n + 1, [_], p, _, _, h => by
    have h0 : (none : Option (List Piece)) = some p := h
    cases h0
  | n + 1, k :: c :: r, p, hs, hn, h => by
    unfold pathOf at h
    dsimp only at h
    simp only [List.length_cons] at hn ⊢
    split at h
    · rename_i hc
      cases hq : pathOf n (r.drop (4 * c)) with
      | none => rw [hq] at h; cases h
      | some q =>
        rw [hq] at h
        have h0 : (((k : Nat) : Int), quadsN r c) :: q = p := by simpa using h
        subst h0
        obtain ⟨h1, h2⟩ := pathOf_len n (r.drop (4 * c)) q (fun x hx => hs x (by simp [List.mem_of_mem_drop hx])) (by rw [List.length_drop]; omega) hq
        rw [List.length_drop] at h1
        have e : lens ((((k : Nat) : Int), quadsN r c) :: q) = c + lens q := by simp [lens, quadsN_len]
        rw [e, List.length_cons]
        refine ⟨by omega, fun s hsm => ?_⟩
        rcases List.mem_cons.1 hsm with rfl | h3
        · show (quadsN r c).length ≤ 255
          rw [quadsN_len]
          have := hs c (by simp)
          omega
        · exact h2 s h3
    · cases h
theorem pathIs_len {b : List Nat} {p : List Piece} (hs : Small b) (h : pathIs b = some p) : 4 * lens p + 2 * p.length = b.length ∧ FitS 255 p := pathOf_len _ b p hs (Nat.le_refl _) h
theorem bulk_is (p : List Piece) : bulk p = lens p + p.length := by
  induction p with
  | nil => rfl
  | cons s p ih =>
    have e1 : bulk (s :: p) = s.2.length + 1 + bulk p := by simp [bulk]
    have e2 : lens (s :: p) = s.2.length + lens p := by simp [lens]
    rw [e1, e2, ih, List.length_cons]; omega
theorem u8_only {W W' : World} {v : Value} {l : List Nat} {B : Nat} (h : U8s W v l) (h9 : ∀ i n, W.cell? ⟨B, i, none⟩ ≠ some (.int .u8 n)) (ho : Only (fun q => q = B) W W') : U8s W' v l := by
  obtain ⟨⟨hl, A, c, rfl, hm, hc, hr⟩, hsm⟩ := h
  refine ⟨⟨hl, A, c, rfl, hm, hc, fun h0 => ?_⟩, hsm⟩
  obtain ⟨b, off, rfl, hlt, hcell⟩ := hr h0
  obtain ⟨x, hx⟩ : ∃ x, l[0]? = some x := ⟨_, List.getElem?_eq_getElem h0⟩
  have hne : b ≠ B := fun e => by
    subst e
    have h5 := hcell 0 (.int .u8 x) (by unfold cells8; rw [List.getElem?_map, hx]; rfl)
    exact h9 _ _ h5
  exact ⟨b, off, rfl, Nat.lt_of_lt_of_le hlt ho.size, fun i y hy => by rw [← hcell i y hy]; exact World.cell?_of_block (ho.block b hlt hne)⟩
theorem rsize {W : World} {base n b : Nat} {l : List Nat} {bad : Bool} {F : Nat → Prop} (h : R W base n (.pointer (some ⟨b, 0, none⟩)) l bad F) : n ≤ W.heap.size := by
  rcases h with ⟨h, _⟩ | ⟨_, _, _, _, _, h4, _⟩
  · cases h
  · exact h4
set_option maxRecDepth 100000 in
set_option maxHeartbeats 4000000 in
theorem fill8 (f : Int) (A : Option Addr) (c : Nat) (v : List Nat) (w : World) (B N : Nat) (a : At) (hA : BoxA w B N a) (hv : U8s w (.slice A v.length c) v) (hl : v.length % 4 = 0 ∧ v.length ≤ 1020) :
    Calls Tryd.prog 74 #[.agg #[.int .i64 f, .int .i64 8, .slice A v.length c], .pointer (some ⟨B, 0, none⟩)] w (FillF B N a 8 v w) := by
  obtain ⟨hok, hlt, Ap, np, cp, Ac, nc, cc, h9, hp, hc, hn⟩ := hA
  have hb1 : Below w.heap.size w (w.alloc (.cells #[.int .i64 f, .int .i64 8, .slice A v.length c] 68)) := (Below.refl _ _).alloc (Nat.le_refl _) _
  have CN := Go.Lib.hid (new_any _ v _ (hv.keep hb1) (by omega))
  have HS := Go.Lib.hid hv.2
  have HOK := Go.Lib.hid hok
  have HP := Go.Lib.hid hp
  have HC := Go.Lib.hid (And.intro hc hn)
  have H9 := Go.Lib.hid h9
  have q3 := Box3.new w 68 (.int .i64 f) (.int .i64 8) (.slice A v.length c)
  obtain ⟨d0, d1, d2⟩ := q3.cells
  obtain ⟨hh, ho, hpt, hh3, hh4, hh5, hh6, hh7, hh8⟩ := a
  dsimp only at hp h9 hc hok HP HC H9 HOK
  clear hv hb1 hp hc hn h9 hok q3
  obtain ⟨hl4, hl⟩ := hl
  have CT := Go.Lib.hid (fun (b N : Nat) (W : World) (h : R W (w.heap.size + 1) N (.pointer (some ⟨b, 0, none⟩)) v false (fun q => q = b)) => show Calls Tryd.prog 54 #[.pointer (some ⟨b, 0, none⟩), .int .i64 (v.length / 4 : Nat)] W (fun e w' => ∃ A c, e = .returned (.slice A (v.length / 4) c) ∧ U32s w' (.slice A (v.length / 4) c) (quads v) ∧ NewAt W.heap.size (.slice A (v.length / 4) c) ∧ R w' (w.heap.size + 1) N (.pointer (some ⟨b, 0, none⟩)) (Rd.mk (v.drop (4 * (v.length / 4))) false).l false (fun q => q = b) ∧ Only (fun q => q = b) W w') from by
    have h1 := take_n _ _ _ v false _ (v.length / 4) W HS.out h (rsize h) (by omega)
    unfold TakeN at h1
    obtain ⟨e1, e2⟩ := took_good (l := v) (v.length / 4) (by omega)
    rw [e1, e2] at h1
    exact h1)
  have CL := Go.Lib.hid (fun (b N : Nat) (W : World) (h : R W (w.heap.size + 1) N (.pointer (some ⟨b, 0, none⟩)) v false (fun q => q = b)) => left_any _ _ _ v false _ W h)
  have wq : wrap64 (((v.length : Nat) : Int) / 4) = ((v.length / 4 : Nat) : Int) := by unfold wrap64; omega
  have hok2 := HOK.out
  clear hl4 hl
  go_enter Tryd.func74, Tryd.ntmps74
  go_wp2_with (first
    | (go_at_call 44; first | (refine (CN.out).mono ?_; rintro e x ⟨b, rfl, hR, hb⟩; have S1 := Go.Lib.hid (fi_new (x := ⟨v, false⟩) H9.out n9 hR hb); clear hR hb d0 d1 d2; obtain ⟨d0, d1, d2⟩ := S1.out.b3.cells; obtain ⟨c0, c1, c2, c3, c4, c5, c6, c7, c8⟩ := S1.out.b9.cells; have fB := S1.out.b9.free) | (trace "FELL N"; trace_state; fail_if_success skip))
    | (have h := S1.out; go_at_call 45; first | (refine (CL.out _ _ _ h.rd).mono ?_; rintro e x ⟨rfl, hb⟩; have S2 := Go.Lib.hid (h.below hb); clear hb h S1; clear d0 d1 d2 c0 c1 c2 c3 c4 c5 c6 c7 c8 fB; obtain ⟨d0, d1, d2⟩ := S2.out.b3.cells; obtain ⟨c0, c1, c2, c3, c4, c5, c6, c7, c8⟩ := S2.out.b9.cells; have fB := S2.out.b9.free) | (trace "FELL L"; trace_state; fail_if_success skip))
    | (have h := S2.out; go_at_call 54; first | (refine (CT.out _ _ _ h.rd).mono ?_; rintro e x9 ⟨At, ct, rfl, hU, hN, hR, ho⟩; have S3 := Go.Lib.hid (h.read (y := ⟨v.drop (4 * (v.length / 4)), false⟩) hR ho); have HU := Go.Lib.hid (And.intro hU (hN.lower (Nat.le_trans hlt.2 h.on.size))); clear hR ho hU hN h S2; clear d0 d1 d2 c0 c1 c2 c3 c4 c5 c6 c7 c8 fB; obtain ⟨d0, d1, d2⟩ := S3.out.b3.cells; obtain ⟨c0, c1, c2, c3, c4, c5, c6, c7, c8⟩ := S3.out.b9.cells; have fB := S3.out.b9.free; have S4 := Go.Lib.hid (S3.out.set8 (.slice At (v.length / 4) ct) (no8_s _ _ _))) | (trace "FELL T"; trace_state; fail_if_success skip)))
  go_ret
  refine ⟨rfl, S4.out.on, fun _ => ?_⟩
  exact ⟨HOK.out, ⟨hlt.1, Nat.le_trans hlt.2 S4.out.on.size⟩, Ap, np, cp, At, _, ct, S4.out.b9, segs_on HP.out S4.out.on (fun k e => by subst e; exact hlt.1), u32_off HU.out.1 HU.out.2 (off_set _ hlt.1) (by simp), HU.out.2⟩
set_option maxRecDepth 100000 in
set_option maxHeartbeats 4000000 in
theorem fill2 (f : Int) (A : Option Addr) (c : Nat) (v : List Nat) (w : World) (B N : Nat) (a : At) (hA : BoxA w B N a) (hv : U8s w (.slice A v.length c) v) (hl : v.length ≤ 65535) :
    Calls Tryd.prog 74 #[.agg #[.int .i64 f, .int .i64 2, .slice A v.length c], .pointer (some ⟨B, 0, none⟩)] w (FillF B N a 2 v w) := by
  obtain ⟨hok, hlt, Ap, np, cp, Ac, nc, cc, h9, hp, hc, hn⟩ := hA
  have hb1 : Below w.heap.size w (w.alloc (.cells #[.int .i64 f, .int .i64 2, .slice A v.length c] 68)) := (Below.refl _ _).alloc (Nat.le_refl _) _
  have CN := Go.Lib.hid (new_any _ v _ (hv.keep hb1) (by omega))
  have HS := Go.Lib.hid hv.2
  have HOK := Go.Lib.hid hok
  have HP := Go.Lib.hid hp
  have HC := Go.Lib.hid (And.intro hc hn)
  have H9 := Go.Lib.hid h9
  have q3 := Box3.new w 68 (.int .i64 f) (.int .i64 2) (.slice A v.length c)
  obtain ⟨d0, d1, d2⟩ := q3.cells
  obtain ⟨hh, ho, hpt, hh3, hh4, hh5, hh6, hh7, hh8⟩ := a
  dsimp only at hp h9 hc hok HP HC H9 HOK
  have HUV := Go.Lib.hid hv
  clear hv hb1 hp hc hn h9 hok q3
  have HV := Go.Lib.hid (fun (W : World) (h : Only (fun q => q = B) w W) (h9 : ∀ i n, w.cell? ⟨B, i, none⟩ ≠ some (.int .u8 n)) => u8_only HUV.out h9 h)
  have CP := Go.Lib.hid (fun (W : World) (h : U8s W (.slice A v.length c) v) => path_any _ v W h (by omega))
  cases hp2 : pathIs v with
  | none =>
    have HE := Go.Lib.hid (show fillN 2 v = 11 by simp [fillN, hp2])
    unfold PathF at CP
    rw [hp2] at CP
    clear hp2 hl
    unfold FillF
    rw [HE.out]
    go_enter Tryd.func74, Tryd.ntmps74
    go_wp2_with (first
      | (go_at_call 44; first | (refine (CN.out).mono ?_; rintro e x ⟨b, rfl, hR, hb⟩; have S1 := Go.Lib.hid (fi_new (x := ⟨v, false⟩) H9.out n9 hR hb); clear hR hb d0 d1 d2; obtain ⟨d0, d1, d2⟩ := S1.out.b3.cells; obtain ⟨c0, c1, c2, c3, c4, c5, c6, c7, c8⟩ := S1.out.b9.cells; have fB := S1.out.b9.free) | (trace "FELL N"; trace_state; fail_if_success skip))
      | (have h := S1.out; go_at_call 24; first | (refine (CP.out _ (HV.out _ h.on (H9.out.no8 n9))).mono ?_; intro e x hF; have HF := Go.Lib.hid (And.intro (h.below hF.1) hF.2); clear hF h; have S2 := Go.Lib.hid HF.out.1; obtain rfl := HF.out.2; clear HF; clear S1; clear d0 d1 d2 c0 c1 c2 c3 c4 c5 c6 c7 c8 fB; obtain ⟨d0, d1, d2⟩ := S2.out.b3.cells; obtain ⟨c0, c1, c2, c3, c4, c5, c6, c7, c8⟩ := S2.out.b9.cells; have fB := S2.out.b9.free) | (trace "FELL P"; trace_state; fail_if_success skip)))
    go_ret
    refine ⟨rfl, S2.out.on, fun hz => ?_⟩
    cases hz
  | some p =>
    obtain ⟨hpl, hpf⟩ := pathIs_len HS.out hp2
    unfold PathF at CP
    rw [hp2] at CP
    have CN2 := Go.Lib.hid (fun (v' : Value) (W : World) (h : Segs W v' p) => numbers_any v' p W h (by omega))
    have CM := Go.Lib.hid (fun (v' : Value) (W : World) (h : Segs W v' p) => pnorm_any v' p W h (by rw [bulk_is]; omega) (fun s hs => Nat.le_trans (hpf s hs) (by decide)))
    have CG := Go.Lib.hid (fun (v' : Value) (W : World) (h : Segs W v' (normS p)) => pgood_any v' (normS p) W h)
    have HEQ := Go.Lib.hid (show fillN 2 v = if goodP (normS p) && decide (lens p ≤ 2000) then 0 else 11 by simp [fillN, hp2])
    have HPV := Go.Lib.hid (show (pathIs v).getD [] = p by rw [hp2]; rfl)
    unfold FillF
    rw [HEQ.out]
    clear hp2 hl hpl hpf
    by_cases hln : 2000 < lens p
    · have z1 : ((lens p : Nat) : Int) > 2000 := by omega
      rw [decide_eq_false (show ¬ lens p ≤ 2000 by omega), Bool.and_false, if_neg (by decide)]
      clear hln HEQ
      go_enter Tryd.func74, Tryd.ntmps74
      go_wp2_with (first
        | (go_at_call 44; first | (refine (CN.out).mono ?_; rintro e x ⟨b, rfl, hR, hb⟩; have S1 := Go.Lib.hid (fi_new (x := ⟨v, false⟩) H9.out n9 hR hb); clear hR hb d0 d1 d2; obtain ⟨d0, d1, d2⟩ := S1.out.b3.cells; obtain ⟨c0, c1, c2, c3, c4, c5, c6, c7, c8⟩ := S1.out.b9.cells; have fB := S1.out.b9.free) | (trace "FELL N"; trace_state; fail_if_success skip))
        | (have h := S1.out; go_at_call 24; first | (refine (CP.out _ (HV.out _ h.on (H9.out.no8 n9))).mono ?_; intro e x hF; have HF := Go.Lib.hid (And.intro (h.below hF.1) hF.2); clear hF h; obtain ⟨vq, rfl, hq⟩ := HF.out.2; obtain ⟨aq, cq, rfl⟩ := hq.form; have HQ := Go.Lib.hid (hq.lower (Nat.le_trans hlt.2 S1.out.on.size) (Nat.le_trans hlt.2 S1.out.on.size)); have S2 := Go.Lib.hid HF.out.1; clear HF hq; clear S1; clear d0 d1 d2 c0 c1 c2 c3 c4 c5 c6 c7 c8 fB; obtain ⟨d0, d1, d2⟩ := S2.out.b3.cells; obtain ⟨c0, c1, c2, c3, c4, c5, c6, c7, c8⟩ := S2.out.b9.cells; have fB := S2.out.b9.free) | (trace "FELL P"; trace_state; fail_if_success skip))
        | (go_at_call 31; first | (refine (CN2.out _ _ HQ.out.segs).mono ?_; rintro e x ⟨rfl, hb⟩; have S3 := Go.Lib.hid (S2.out.below hb); replace HQ := Go.Lib.hid (HQ.out.keep hb); clear hb S2; clear d0 d1 d2 c0 c1 c2 c3 c4 c5 c6 c7 c8 fB; obtain ⟨d0, d1, d2⟩ := S3.out.b3.cells; obtain ⟨c0, c1, c2, c3, c4, c5, c6, c7, c8⟩ := S3.out.b9.cells; have fB := S3.out.b9.free) | (trace "FELL NUM"; trace_state; fail_if_success skip)))
      go_ret
      refine ⟨rfl, S3.out.on, fun hz => ?_⟩
      cases hz
    · have z1 : decide ((2000 : Int) < (lens p : Nat)) = false := decide_eq_false (by omega)
      rw [decide_eq_true (show lens p ≤ 2000 by omega), Bool.and_true]
      clear hln HEQ
      cases hg : goodP (normS p) with
      | false =>
        rw [hg] at CG
        rw [if_neg (by decide)]
        clear hg
        go_enter Tryd.func74, Tryd.ntmps74
        go_wp2_with (first
          | (go_at_call 44; first | (refine (CN.out).mono ?_; rintro e x ⟨b, rfl, hR, hb⟩; have S1 := Go.Lib.hid (fi_new (x := ⟨v, false⟩) H9.out n9 hR hb); clear hR hb d0 d1 d2; obtain ⟨d0, d1, d2⟩ := S1.out.b3.cells; obtain ⟨c0, c1, c2, c3, c4, c5, c6, c7, c8⟩ := S1.out.b9.cells; have fB := S1.out.b9.free) | (trace "FELL N"; trace_state; fail_if_success skip))
          | (have h := S1.out; go_at_call 24; first | (refine (CP.out _ (HV.out _ h.on (H9.out.no8 n9))).mono ?_; intro e x hF; have HF := Go.Lib.hid (And.intro (h.below hF.1) hF.2); clear hF h; obtain ⟨vq, rfl, hq⟩ := HF.out.2; obtain ⟨aq, cq, rfl⟩ := hq.form; have HQ := Go.Lib.hid (hq.lower (Nat.le_trans hlt.2 S1.out.on.size) (Nat.le_trans hlt.2 S1.out.on.size)); have S2 := Go.Lib.hid HF.out.1; clear HF hq; clear S1; clear d0 d1 d2 c0 c1 c2 c3 c4 c5 c6 c7 c8 fB; obtain ⟨d0, d1, d2⟩ := S2.out.b3.cells; obtain ⟨c0, c1, c2, c3, c4, c5, c6, c7, c8⟩ := S2.out.b9.cells; have fB := S2.out.b9.free) | (trace "FELL P"; trace_state; fail_if_success skip))
          | (go_at_call 31; first | (refine (CN2.out _ _ HQ.out.segs).mono ?_; rintro e x ⟨rfl, hb⟩; have S3 := Go.Lib.hid (S2.out.below hb); replace HQ := Go.Lib.hid (HQ.out.keep hb); clear hb S2; clear d0 d1 d2 c0 c1 c2 c3 c4 c5 c6 c7 c8 fB; obtain ⟨d0, d1, d2⟩ := S3.out.b3.cells; obtain ⟨c0, c1, c2, c3, c4, c5, c6, c7, c8⟩ := S3.out.b9.cells; have fB := S3.out.b9.free) | (trace "FELL NUM"; trace_state; fail_if_success skip))
          | (go_at_call 36; first | (refine (CM.out _ _ HQ.out.segs).mono ?_; rintro e x ⟨vn, rfl, hn, hb⟩; have HN := Go.Lib.hid hn.segs; have S4 := Go.Lib.hid (S3.out.below hb); replace HQ := Go.Lib.hid (HQ.out.keep hb); clear hb hn S3; clear d0 d1 d2 c0 c1 c2 c3 c4 c5 c6 c7 c8 fB; obtain ⟨d0, d1, d2⟩ := S4.out.b3.cells; obtain ⟨c0, c1, c2, c3, c4, c5, c6, c7, c8⟩ := S4.out.b9.cells; have fB := S4.out.b9.free) | (trace "FELL NORM"; trace_state; fail_if_success skip))
          | (go_at_call 30; first | (refine (CG.out _ _ HN.out).mono ?_; rintro e x ⟨rfl, hb⟩; have S5 := Go.Lib.hid (S4.out.below hb); replace HQ := Go.Lib.hid (HQ.out.keep hb); clear hb S4; clear d0 d1 d2 c0 c1 c2 c3 c4 c5 c6 c7 c8 fB; obtain ⟨d0, d1, d2⟩ := S5.out.b3.cells; obtain ⟨c0, c1, c2, c3, c4, c5, c6, c7, c8⟩ := S5.out.b9.cells; have fB := S5.out.b9.free; have fE := S5.out.b9.free; have S6 := Go.Lib.hid (S5.out.set2 (.slice aq p.length cq) (no8_s _ _ _))) | (trace "FELL GOOD"; trace_state; fail_if_success skip)))
        go_ret
        refine ⟨rfl, S5.out.on, fun hz => ?_⟩
        cases hz
      | true =>
        rw [hg] at CG
        rw [if_pos (by decide)]
        clear hg
        go_enter Tryd.func74, Tryd.ntmps74
        go_wp2_with (first
          | (go_at_call 44; first | (refine (CN.out).mono ?_; rintro e x ⟨b, rfl, hR, hb⟩; have S1 := Go.Lib.hid (fi_new (x := ⟨v, false⟩) H9.out n9 hR hb); clear hR hb d0 d1 d2; obtain ⟨d0, d1, d2⟩ := S1.out.b3.cells; obtain ⟨c0, c1, c2, c3, c4, c5, c6, c7, c8⟩ := S1.out.b9.cells; have fB := S1.out.b9.free) | (trace "FELL N"; trace_state; fail_if_success skip))
          | (have h := S1.out; go_at_call 24; first | (refine (CP.out _ (HV.out _ h.on (H9.out.no8 n9))).mono ?_; intro e x hF; have HF := Go.Lib.hid (And.intro (h.below hF.1) hF.2); clear hF h; obtain ⟨vq, rfl, hq⟩ := HF.out.2; obtain ⟨aq, cq, rfl⟩ := hq.form; have HQ := Go.Lib.hid (hq.lower (Nat.le_trans hlt.2 S1.out.on.size) (Nat.le_trans hlt.2 S1.out.on.size)); have S2 := Go.Lib.hid HF.out.1; clear HF hq; clear S1; clear d0 d1 d2 c0 c1 c2 c3 c4 c5 c6 c7 c8 fB; obtain ⟨d0, d1, d2⟩ := S2.out.b3.cells; obtain ⟨c0, c1, c2, c3, c4, c5, c6, c7, c8⟩ := S2.out.b9.cells; have fB := S2.out.b9.free) | (trace "FELL P"; trace_state; fail_if_success skip))
          | (go_at_call 31; first | (refine (CN2.out _ _ HQ.out.segs).mono ?_; rintro e x ⟨rfl, hb⟩; have S3 := Go.Lib.hid (S2.out.below hb); replace HQ := Go.Lib.hid (HQ.out.keep hb); clear hb S2; clear d0 d1 d2 c0 c1 c2 c3 c4 c5 c6 c7 c8 fB; obtain ⟨d0, d1, d2⟩ := S3.out.b3.cells; obtain ⟨c0, c1, c2, c3, c4, c5, c6, c7, c8⟩ := S3.out.b9.cells; have fB := S3.out.b9.free) | (trace "FELL NUM"; trace_state; fail_if_success skip))
          | (go_at_call 36; first | (refine (CM.out _ _ HQ.out.segs).mono ?_; rintro e x ⟨vn, rfl, hn, hb⟩; have HN := Go.Lib.hid hn.segs; have S4 := Go.Lib.hid (S3.out.below hb); replace HQ := Go.Lib.hid (HQ.out.keep hb); clear hb hn S3; clear d0 d1 d2 c0 c1 c2 c3 c4 c5 c6 c7 c8 fB; obtain ⟨d0, d1, d2⟩ := S4.out.b3.cells; obtain ⟨c0, c1, c2, c3, c4, c5, c6, c7, c8⟩ := S4.out.b9.cells; have fB := S4.out.b9.free) | (trace "FELL NORM"; trace_state; fail_if_success skip))
          | (go_at_call 30; first | (refine (CG.out _ _ HN.out).mono ?_; rintro e x ⟨rfl, hb⟩; have S5 := Go.Lib.hid (S4.out.below hb); replace HQ := Go.Lib.hid (HQ.out.keep hb); clear hb S4; clear d0 d1 d2 c0 c1 c2 c3 c4 c5 c6 c7 c8 fB; obtain ⟨d0, d1, d2⟩ := S5.out.b3.cells; obtain ⟨c0, c1, c2, c3, c4, c5, c6, c7, c8⟩ := S5.out.b9.cells; have fB := S5.out.b9.free; have fE := S5.out.b9.free; have S6 := Go.Lib.hid (S5.out.set2 (.slice aq p.length cq) (no8_s _ _ _))) | (trace "FELL GOOD"; trace_state; fail_if_success skip)))
        go_ret
        refine ⟨rfl, S6.out.on, fun _ => ?_⟩
        have HQ2 := segs_off HQ.out (off_set (B := B) (i := 2) (.slice aq p.length cq) hlt.1) (by simp)
        refine ⟨HOK.out, ⟨hlt.1, Nat.le_trans hlt.2 S6.out.on.size⟩, aq, _, cq, Ac, nc, cc, S6.out.b9, ?_, u32_on HC.out.1 HC.out.2 S6.out.on (fun k e => by subst e; exact hlt.1), HC.out.2⟩
        show OwnSegsF 78 N N _ _ ((pathIs v).getD [])
        rw [HPV.out]
        exact HQ2
end Go.Proofs.YtanmepgplpijkaaDoor.Att
namespace Go.Proofs.YtanmepgplpijkaaDoor.Att
open Go.RowKit Mem Segm Oct Seg
theorem fewS_fit (p : List Piece) : (fewS p).length ≤ 12 ∧ FitS 300 (fewS p) := by
  unfold fewS
  refine ⟨by rw [List.length_map, List.length_take]; omega, fun s hs => ?_⟩
  obtain ⟨r, _, rfl⟩ := List.mem_map.1 hs
  unfold fewOne
  rw [List.length_take]
  omega
theorem fit_lens : ∀ (p : List Piece) (m : Nat), FitS m p → lens p ≤ m * p.length
  | [], m, _ => by simp [lens]
  | s :: p, m, h => by
    have h1 := fit_lens p m (fun x hx => h x (List.mem_cons_of_mem _ hx))
    have h2 := h s (List.mem_cons_self ..)
    have e : lens (s :: p) = s.2.length + lens p := by simp [lens]
    rw [e, List.length_cons, Nat.mul_succ]
    omega
theorem fewS_twice (p : List Piece) : fewS (fewS p) = fewS p := by
  unfold fewS
  rw [List.take_of_length_le (by rw [List.length_map, List.length_take]; omega), List.map_map]
  apply List.map_congr_left
  intro s _
  unfold fewOne
  simp [List.take_take]
theorem fewA_twice (a : At) : fewA (fewA a) = fewA a := by
  unfold fewA
  dsimp only
  rw [fewS_twice]
  simp [List.take_take]
structure Cut8 (a : At) : Prop where
  few : fewA a = a
  bk : bulk a.path ≤ 40000
  ln : lens a.path ≤ 100000
  fit : FitS 300 a.path
  cm : a.comms.length ≤ 260
theorem cut8_few (a : At) : Cut8 (fewA a) := by
  obtain ⟨h1, h2⟩ := fewS_fit a.path
  have h3 := fit_lens _ _ h2
  refine ⟨fewA_twice a, ?_, ?_, h2, ?_⟩
  · show bulk (fewS a.path) ≤ 40000
    rw [bulk_is]; omega
  · show lens (fewS a.path) ≤ 100000
    omega
  · show (a.comms.take 260).length ≤ 260
    rw [List.length_take]; omega
theorem fit_more {m n : Nat} {p : List Piece} (h : FitS m p) (hm : m ≤ n) : FitS n p := fun s hs => Nat.le_trans (h s hs) hm
end Go.Proofs.YtanmepgplpijkaaDoor.Att
