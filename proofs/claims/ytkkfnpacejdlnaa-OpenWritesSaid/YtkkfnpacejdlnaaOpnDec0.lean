/- The program's Decode of an Open: what stands in memory. -/
import Derived.Test.YtkkfnpacejdlnaaOpnRead
import Derived.Test.YtkkfnpacejdlnaaOpnRDec0
import Derived.Deep.DeepCutAuto
import Derived.Deep.CutBlock
namespace Go.Proofs.Ytkkfnpacejdlnaa.Opn
open Go.RowKit Mem Oct Att

/-- While the program reads an Open: the results' boxes, the Open, what is told, and the reader. -/
structure DeSt (w0 : World) (n br : Nat) (x : Rd) (o : Op) (W : World) : Prop where
  r0 : Rd0 w0 W
  bo : Box4 W (w0.heap.size + 1 + 1) 24 (.int .u32 o.an) (.int .i64 o.hold) (.int .u32 o.ri) (.bool o.four)
  bn : Box3 W (w0.heap.size + 1 + 1 + 1) 32 (.int .i64 0) (.int .i64 0) (.slice none 0 0)
  rd : R W (w0.heap.size + 4) n (.pointer (some ⟨br, 0, none⟩)) x.l x.b (fun k => k = br)
section
variable {w0 W W2 : World} {n br : Nat} {x y : Rd} {o : Op}
theorem DeSt.ge (h : DeSt w0 n br x o W) : w0.heap.size + 4 ≤ br := (h.rd.low br rfl).1
theorem DeSt.below (h : DeSt w0 n br x o W) (hb : Below W.heap.size W W2) : DeSt w0 n br x o W2 := ⟨h.r0.below hb, h.bo.keep hb, h.bn.keep hb, h.rd.below hb⟩
theorem DeSt.read (h : DeSt w0 n br x o W) (hr : R W2 (w0.heap.size + 4) n (.pointer (some ⟨br, 0, none⟩)) y.l y.b (fun k => k = br)) (ho : Only (fun k => k = br) W W2) : DeSt w0 n br y o W2 := by
  have hg := h.ge
  exact ⟨⟨⟨(ho.block _ h.r0.r4.lt (by omega)).trans h.r0.r4.blk⟩, ⟨(ho.block _ h.r0.r3.lt (by omega)).trans h.r0.r3.blk⟩, h.r0.low.trans (ho.below (fun k hk => by omega) h.r0.low.size)⟩, ⟨(ho.block _ h.bo.lt (by omega)).trans h.bo.blk⟩, ⟨(ho.block _ h.bn.lt (by omega)).trans h.bn.blk⟩, hr⟩
theorem DeSt.no8 (h : DeSt w0 n br x o W) : ∀ i k, W.cell? ⟨w0.heap.size + 1 + 1, i, none⟩ ≠ some (.int .u8 k) := h.bo.no8 (no8_u _) (no8_i _) (no8_u _) (no8_b _)
theorem rd0_set {w0 W : World} (h : Rd0 w0 W) (i : Nat) (u : Value) : Rd0 w0 (W.setCell ⟨w0.heap.size + 1 + 1, i, none⟩ u) :=
  ⟨h.r4.far (by omega) _, h.r3.far (by omega) _, h.low.setCell (p := ⟨w0.heap.size + 1 + 1, i, none⟩) (by show w0.heap.size ≤ w0.heap.size + 1 + 1; omega) _⟩
theorem DeSt.set0 (h : DeSt w0 n br x o W) (a : Nat) : DeSt w0 n br x ⟨a, o.hold, o.ri, o.four⟩ (W.setCell ⟨w0.heap.size + 1 + 1, 0, none⟩ (.int .u32 a)) :=
  ⟨rd0_set h.r0 _ _, h.bo.set0 _, h.bn.far (by omega) _, R_apart h.rd h.no8 (fun e => by have := h.ge; omega) (set_off W _ 0 _).1 (set_off W _ 0 _).2⟩
theorem DeSt.set1 (h : DeSt w0 n br x o W) (a : Int) : DeSt w0 n br x ⟨o.an, a, o.ri, o.four⟩ (W.setCell ⟨w0.heap.size + 1 + 1, 1, none⟩ (.int .i64 a)) :=
  ⟨rd0_set h.r0 _ _, h.bo.set1 _, h.bn.far (by omega) _, R_apart h.rd h.no8 (fun e => by have := h.ge; omega) (set_off W _ 1 _).1 (set_off W _ 1 _).2⟩
theorem DeSt.set2 (h : DeSt w0 n br x o W) (a : Nat) : DeSt w0 n br x ⟨o.an, o.hold, a, o.four⟩ (W.setCell ⟨w0.heap.size + 1 + 1, 2, none⟩ (.int .u32 a)) :=
  ⟨rd0_set h.r0 _ _, h.bo.set2 _, h.bn.far (by omega) _, R_apart h.rd h.no8 (fun e => by have := h.ge; omega) (set_off W _ 2 _).1 (set_off W _ 2 _).2⟩
end
theorem DeSt.only {w0 W W2 : World} {n br : Nat} {x : Rd} {o : Op} (h : DeSt w0 n br x o W) (ho : Only (fun k => k = br ∨ k = w0.heap.size + 1 + 1) W W2) : Rd0 w0 W2 ∧ Box3 W2 (w0.heap.size + 1 + 1 + 1) 32 (.int .i64 0) (.int .i64 0) (.slice none 0 0) := by
  have hg := h.ge
  exact ⟨⟨⟨(ho.block _ h.r0.r4.lt (by omega)).trans h.r0.r4.blk⟩, ⟨(ho.block _ h.r0.r3.lt (by omega)).trans h.r0.r3.blk⟩, h.r0.low.trans (ho.below (fun k hk => by omega) h.r0.low.size)⟩, ⟨(ho.block _ h.bn.lt (by omega)).trans h.bn.blk⟩⟩
theorem end_fin {b : List Nat} {w W : World} {s : Nat} {A : Option Addr} {m c : Nat} (h0 : Rd0 w W) (hd : outO (decO b) = (zeroO, noO s)) (hn : Note W (.agg #[.int .i64 2, .int .i64 s, .slice A m c]) (noO s)) :
    DecF9 b w (.returned (.tuple #[.agg #[.int .u32 0, .int .i64 0, .int .u32 0, .bool false], .agg #[.int .i64 2, .int .i64 s, .slice A m c]])) (ends w W (.int .u32 0) (.int .i64 0) (.int .u32 0) (.bool false) (.int .i64 2) (.int .i64 s) (.slice A m c)).drew := by
  have ho1 := four_off W w.heap.size (.int .u32 0) (.int .i64 0) (.int .u32 0) (.bool false)
  have ho2 := three_off (four W w.heap.size (.int .u32 0) (.int .i64 0) (.int .u32 0) (.bool false)) (w.heap.size + 1) (.int .i64 2) (.int .i64 s) (.slice A m c)
  obtain ⟨g1, g2, vd, g3, g4⟩ := hn
  injection g3 with g3
  have g5 : vd = .slice A m c := by
    have := congrArg (fun a : Array Value => a[2]?) g3
    simpa using this.symm
  subst g5
  unfold DecF9
  rw [hd]
  have hb := (h0.fin (.int .u32 0) (.int .i64 0) (.int .u32 0) (.bool false) (.int .i64 2) (.int .i64 s) (.slice A m c)).2.2
  have kd : Below (ends w W (.int .u32 0) (.int .i64 0) (.int .u32 0) (.bool false) (.int .i64 2) (.int .i64 s) (.slice A m c)).heap.size (ends w W (.int .u32 0) (.int .i64 0) (.int .u32 0) (.bool false) (.int .i64 2) (.int .i64 s) (.slice A m c)) (ends w W (.int .u32 0) (.int .i64 0) (.int .u32 0) (.bool false) (.int .i64 2) (.int .i64 s) (.slice A m c)).drew := (Below.refl _ _).drew
  exact ⟨_, rfl, ⟨g1, g2, _, rfl, (u8_apart (u8_apart g4 (h0.r4.no8 (no8_u _) (no8_i _) (no8_u _) (no8_b _)) ho1.1 ho1.2) ((h0.mid (.int .u32 0) (.int .i64 0) (.int .u32 0) (.bool false)).no8 (no8_i _) (no8_i _) (no8_s _ _ _)) ho2.1 ho2.2).keep kd⟩, hb.trans (kd.mono hb.size)⟩
theorem end_good {b : List Nat} {w W : World} {o : Op} (h0 : Rd0 w W) (hd : outO (decO b) = (o, ⟨0, 0, []⟩)) :
    DecF9 b w (.returned (.tuple #[.agg #[.int .u32 o.an, .int .i64 o.hold, .int .u32 o.ri, .bool o.four], .agg #[.int .i64 0, .int .i64 0, .slice none 0 0]])) (ends w W (.int .u32 o.an) (.int .i64 o.hold) (.int .u32 o.ri) (.bool o.four) (.int .i64 0) (.int .i64 0) (.slice none 0 0)).drew := by
  unfold DecF9
  rw [hd]
  have hb := (h0.fin (.int .u32 o.an) (.int .i64 o.hold) (.int .u32 o.ri) (.bool o.four) (.int .i64 0) (.int .i64 0) (.slice none 0 0)).2.2
  have kd : Below (ends w W (.int .u32 o.an) (.int .i64 o.hold) (.int .u32 o.ri) (.bool o.four) (.int .i64 0) (.int .i64 0) (.slice none 0 0)).heap.size _ (ends w W (.int .u32 o.an) (.int .i64 o.hold) (.int .u32 o.ri) (.bool o.four) (.int .i64 0) (.int .i64 0) (.slice none 0 0)).drew := (Below.refl _ _).drew
  exact ⟨_, rfl, ⟨show (Lit.int .i64 0).wf = true by decide, show (Lit.int .i64 0).wf = true by decide, _, rfl, U8s.nil _⟩, hb.trans (kd.mono hb.size)⟩
/-- The four boxes. -/
theorem de_boxes (w : World) : let W := (((w.alloc (.cells #[.int .u32 0, .int .i64 0, .int .u32 0, .bool false] 24)).alloc (.cells #[.int .i64 0, .int .i64 0, .slice none 0 0] 32)).alloc (.cells #[.int .u32 0, .int .i64 0, .int .u32 0, .bool false] 24)).alloc (.cells #[.int .i64 0, .int .i64 0, .slice none 0 0] 32)
    W.heap.size = w.heap.size + 4 ∧ Rd0 w W ∧ Box4 W (w.heap.size + 1 + 1) 24 (.int .u32 0) (.int .i64 0) (.int .u32 0) (.bool false) ∧ Box3 W (w.heap.size + 1 + 1 + 1) 32 (.int .i64 0) (.int .i64 0) (.slice none 0 0) := by
  intro W
  have h := rd0_start w
  have e : ((w.alloc (.cells #[.int .u32 0, .int .i64 0, .int .u32 0, .bool false] 24)).alloc (.cells #[.int .i64 0, .int .i64 0, .slice none 0 0] 32)).heap.size = w.heap.size + 1 + 1 := by simp
  obtain ⟨W1, hW1⟩ : ∃ W1, W1 = (w.alloc (.cells #[.int .u32 0, .int .i64 0, .int .u32 0, .bool false] 24)).alloc (.cells #[.int .i64 0, .int .i64 0, .slice none 0 0] 32) := ⟨_, rfl⟩
  have hW : W = (W1.alloc (.cells #[.int .u32 0, .int .i64 0, .int .u32 0, .bool false] 24)).alloc (.cells #[.int .i64 0, .int .i64 0, .slice none 0 0] 32) := by rw [hW1]
  rw [← hW1] at h e
  clear hW1
  rw [hW]
  have h2 := Box4.new W1 24 (.int .u32 0) (.int .i64 0) (.int .u32 0) (.bool false)
  have b2 : Below W1.heap.size W1 (W1.alloc (.cells #[.int .u32 0, .int .i64 0, .int .u32 0, .bool false] 24)) := (Below.refl _ _).alloc (Nat.le_refl _) _
  have e2 : (W1.alloc (.cells #[.int .u32 0, .int .i64 0, .int .u32 0, .bool false] 24)).heap.size = w.heap.size + 1 + 1 + 1 := by simp [e]
  have h3 := Box3.new (W1.alloc (.cells #[.int .u32 0, .int .i64 0, .int .u32 0, .bool false] 24)) 32 (.int .i64 0) (.int .i64 0) (.slice none 0 0)
  have b3 : Below (W1.alloc (.cells #[.int .u32 0, .int .i64 0, .int .u32 0, .bool false] 24)).heap.size _ ((W1.alloc (.cells #[.int .u32 0, .int .i64 0, .int .u32 0, .bool false] 24)).alloc (.cells #[.int .i64 0, .int .i64 0, .slice none 0 0] 32)) := (Below.refl _ _).alloc (Nat.le_refl _) _
  rw [e] at h2
  rw [e2] at h3
  exact ⟨by simp [e], (h.below b2).below b3, h2.keep b3, h3⟩
theorem take_one {l : List Nat} {i y : Nat} (h : l[i]? = some y) : val ((l.drop i).take 1) = y := by
  obtain ⟨h1, h2⟩ := List.getElem?_eq_some_iff.1 h
  rw [List.drop_eq_getElem_cons h1, h2]
  show 0 * 256 + y = y
  omega
/-- What the head's reads tell. -/
theorem rd_head (b : List Nat) : (b.length < 10 → ((((((Rd.mk b false).go 1).go 2).go 2).go 4).go 1).b = true) ∧
    (10 ≤ b.length → (((((Rd.mk b false).go 1).go 2).go 2).go 4).go 1 = ⟨b.drop 10, false⟩ ∧ b[0]? = some ((Rd.mk b false).num 1) ∧
      headO b = ⟨((Rd.mk b false).go 1).num 2, ((((Rd.mk b false).go 1).go 2).num 2 : Nat), ((((Rd.mk b false).go 1).go 2).go 2).num 4, false⟩ ∧ b[9]? = some ((((((Rd.mk b false).go 1).go 2).go 2).go 4).num 1)) := by
  have step : ∀ (i k : Nat), i + k ≤ b.length → (Rd.mk (b.drop i) false).go (k : Nat) = ⟨b.drop (i + k), false⟩ ∧ (Rd.mk (b.drop i) false).num (k : Nat) = val ((b.drop i).take k) := fun i k h => by
    obtain ⟨g1, g2⟩ := fit_go (l := b.drop i) (n := k) (by rw [List.length_drop]; omega)
    exact ⟨by rw [g1, List.drop_drop], congrArg val g2⟩
  have short : ∀ (i k : Nat), i ≤ b.length → b.length < i + k → ((Rd.mk (b.drop i) false).go (k : Nat)).b = true := fun i k h0 h => (go_short (by rw [List.length_drop]; omega)).1
  constructor
  · intro h
    by_cases h1 : 0 + 1 ≤ b.length
    · have e1 : (Rd.mk b false).go 1 = ⟨b.drop 1, false⟩ := (step 0 1 h1).1
      rw [e1]
      by_cases h2 : 1 + 2 ≤ b.length
      · have e2 : (Rd.mk (b.drop 1) false).go 2 = ⟨b.drop 3, false⟩ := (step 1 2 h2).1
        rw [e2]
        by_cases h3 : 3 + 2 ≤ b.length
        · have e3 : (Rd.mk (b.drop 3) false).go 2 = ⟨b.drop 5, false⟩ := (step 3 2 h3).1
          rw [e3]
          by_cases h4 : 5 + 4 ≤ b.length
          · have e4 : (Rd.mk (b.drop 5) false).go 4 = ⟨b.drop 9, false⟩ := (step 5 4 h4).1
            rw [e4]
            exact short 9 1 (by omega) (by omega)
          · exact go_bad (short 5 4 (by omega) (by omega)) _
        · exact go_bad (go_bad (short 3 2 (by omega) (by omega)) _) _
      · exact go_bad (go_bad (go_bad (short 1 2 (by omega) (by omega)) _) _) _
    · exact go_bad (go_bad (go_bad (go_bad (short 0 1 (by omega) (by omega)) _) _) _) _
  · intro h
    have e1 : (Rd.mk b false).go 1 = ⟨b.drop 1, false⟩ := (step 0 1 (by omega)).1
    have e2 : (Rd.mk (b.drop 1) false).go 2 = ⟨b.drop 3, false⟩ := (step 1 2 (by omega)).1
    have e3 : (Rd.mk (b.drop 3) false).go 2 = ⟨b.drop 5, false⟩ := (step 3 2 (by omega)).1
    have e4 : (Rd.mk (b.drop 5) false).go 4 = ⟨b.drop 9, false⟩ := (step 5 4 (by omega)).1
    have e5 : (Rd.mk (b.drop 9) false).go 1 = ⟨b.drop 10, false⟩ := (step 9 1 (by omega)).1
    have n1 : (Rd.mk b false).num 1 = val ((b.drop 0).take 1) := (step 0 1 (by omega)).2
    have n2 : (Rd.mk (b.drop 1) false).num 2 = val ((b.drop 1).take 2) := (step 1 2 (by omega)).2
    have n3 : (Rd.mk (b.drop 3) false).num 2 = val ((b.drop 3).take 2) := (step 3 2 (by omega)).2
    have n4 : (Rd.mk (b.drop 5) false).num 4 = val ((b.drop 5).take 4) := (step 5 4 (by omega)).2
    have n5 : (Rd.mk (b.drop 9) false).num 1 = val ((b.drop 9).take 1) := (step 9 1 (by omega)).2
    obtain ⟨y0, hy0⟩ : ∃ y, b[0]? = some y := ⟨_, List.getElem?_eq_getElem (by omega)⟩
    obtain ⟨y9, hy9⟩ : ∃ y, b[9]? = some y := ⟨_, List.getElem?_eq_getElem (by omega)⟩
    rw [e1, e2, e3, e4, e5, n1, n2, n3, n4, n5, take_one hy0, take_one hy9]
    exact ⟨rfl, hy0, rfl, hy9⟩
/-- Behind the choice: what is told, or the Open. -/
def EndO (b : List Nat) (w W : World) : Prop :=
  Rd0 w W ∧ ((∃ (s : Nat) (A : Option Addr) (m c : Nat), 0 < s + 1 ∧ outO (decO b) = (zeroO, noO s) ∧ Box3 W (w.heap.size + 1 + 1 + 1) 32 (.int .i64 2) (.int .i64 s) (.slice A m c) ∧ Note W (.agg #[.int .i64 2, .int .i64 s, .slice A m c]) (noO s)) ∨
    ∃ o : Op, outO (decO b) = (o, ⟨0, 0, []⟩) ∧ Box3 W (w.heap.size + 1 + 1 + 1) 32 (.int .i64 0) (.int .i64 0) (.slice none 0 0) ∧ Box4 W (w.heap.size + 1 + 1) 24 (.int .u32 o.an) (.int .i64 o.hold) (.int .u32 o.ri) (.bool o.four))
theorem rd0_three {w W : World} (h : Rd0 w W) (x y z : Value) : Rd0 w (three W (w.heap.size + 1 + 1 + 1) x y z) := by
  have ho := three_off W (w.heap.size + 1 + 1 + 1) x y z
  exact ⟨⟨(ho.1 _ (by omega)).trans h.r4.blk⟩, ⟨(ho.1 _ (by omega)).trans h.r3.blk⟩, three_low h.low _ (by omega) _ _ _⟩
theorem end_bad {b : List Nat} {w W : World} {s : Nat} {si : Int} (h0 : Rd0 w W) (hb : Box3 W (w.heap.size + 1 + 1 + 1) 32 (.int .i64 0) (.int .i64 0) (.slice none 0 0)) (hd : decO b = .inl s) (hs : s ≠ 1) (hi : si = (s : Int)) (hl : (s : Int) ≤ 255) : EndO b w (three W (w.heap.size + 1 + 1 + 1) (.int .i64 2) (.int .i64 si) (.slice none 0 0)) := by
  subst hi
  refine ⟨rd0_three h0 _ _ _, .inl ⟨s, none, 0, 0, by omega, by rw [hd]; rfl, hb.laid _ _ _, ?_⟩⟩
  refine ⟨show (Lit.int .i64 2).wf = true by decide, show (Lit.int .i64 (s : Int)).wf = true by simp [Lit.wf, IntKind.min, IntKind.max, IntKind.signed, IntKind.bits]; omega, _, rfl, ?_⟩
  show U8s _ _ (if s = 1 then [0, 4] else [])
  rw [if_neg hs]
  exact U8s.nil _
theorem end_one {b : List Nat} {w W : World} {A : Option Addr} {c : Nat} (h0 : Rd0 w W) (hb : Box3 W (w.heap.size + 1 + 1 + 1) 32 (.int .i64 0) (.int .i64 0) (.slice none 0 0)) (hd : decO b = .inl 1) (hU : U8s W (.slice A 2 c) [0, 4]) : EndO b w (three W (w.heap.size + 1 + 1 + 1) (.int .i64 2) (.int .i64 1) (.slice A 2 c)) := by
  have ho := three_off W (w.heap.size + 1 + 1 + 1) (.int .i64 2) (.int .i64 1) (.slice A 2 c)
  exact ⟨rd0_three h0 _ _ _, .inl ⟨1, A, 2, c, by omega, by rw [hd]; rfl, hb.laid _ _ _, show (Lit.int .i64 2).wf = true by decide, show (Lit.int .i64 ((1 : Nat) : Int)).wf = true by decide, _, rfl, u8_apart hU (hb.no8 (no8_i _) (no8_i _) (no8_s _ _ _)) ho.1 ho.2⟩⟩
theorem end_ok {b : List Nat} {w W : World} {o : Op} (h0 : Rd0 w W) (hb : Box3 W (w.heap.size + 1 + 1 + 1) 32 (.int .i64 0) (.int .i64 0) (.slice none 0 0)) (hd : decO b = .inr o) (hB : Box4 W (w.heap.size + 1 + 1) 24 (.int .u32 o.an) (.int .i64 o.hold) (.int .u32 o.ri) (.bool o.four)) : EndO b w (three W (w.heap.size + 1 + 1 + 1) (.int .i64 0) (.int .i64 0) (.slice none 0 0)) := by
  have ho := three_off W (w.heap.size + 1 + 1 + 1) (.int .i64 0) (.int .i64 0) (.slice none 0 0)
  exact ⟨rd0_three h0 _ _ _, .inr ⟨o, by rw [hd]; rfl, hb.laid _ _ _, ⟨(ho.1 _ (by omega)).trans hB.blk⟩⟩⟩
end Go.Proofs.Ytkkfnpacejdlnaa.Opn
