/- While the program reads parameters and capabilities: what stands in memory, and what the readers' calls tell. -/
import Derived.Test.YtkkfnpacejdlnaaOpnNext
import Derived.Test.YtkkfnpacejdlnaaOpnMath2
namespace Go.Proofs.Ytkkfnpacejdlnaa.Opn
open Go.RowKit Mem Oct Att

/-- What next tells, by what is left. -/
theorem on_cases (l : List Nat) : l = [] ∨ ((onR ⟨l, false⟩).b = true ∧ 0 < l.length ∧ (∀ o, pars o l = .inl 0) ∧ (∀ o, caps o l = none)) ∨
    ∃ t m r, l = t :: m :: r ∧ m ≤ r.length ∧ onK ⟨l, false⟩ = t ∧ onV ⟨l, false⟩ = ⟨r.take m, false⟩ ∧ onR ⟨l, false⟩ = ⟨r.drop m, false⟩ := by
  match l with
  | [] => exact .inl rfl
  | [t] =>
    refine .inr (.inl ⟨?_, by simp, fun o => pars_one o t, fun o => caps_one o t⟩)
    unfold onR on2
    rw [(head_go t []).1]
    exact go_bad (go_nil 1 (by omega)) _
  | t :: m :: r =>
    have e1 := (head_go t (m :: r)).1
    have e2 : on2 ⟨t :: m :: r, false⟩ = ⟨r, false⟩ := by unfold on2; rw [e1]; exact (head_go m r).1
    have eK : onK ⟨t :: m :: r, false⟩ = t := (head_go t (m :: r)).2
    have eN : onN ⟨t :: m :: r, false⟩ = m := by unfold onN; rw [e1]; exact (head_go m r).2
    by_cases h : m ≤ r.length
    · refine .inr (.inr ⟨t, m, r, rfl, h, eK, ?_, ?_⟩)
      · unfold onV
        rw [e2, eN]
        obtain ⟨g1, g2⟩ := fit_go h
        have hf : fails r false (m : Nat) = false := by
          have := congrArg Rd.b g1
          exact this
        dsimp only
        rw [g2, hf]
      · unfold onR
        rw [e2, eN]
        exact (fit_go h).1
    · refine .inr (.inl ⟨?_, by simp, fun o => ?_, fun o => ?_⟩)
      · unfold onR
        rw [e2, eN]
        exact (go_short (by omega)).1
      · rw [pars_two, if_neg h]
      · rw [caps_step, if_neg h]
/-- The number of four bytes, and what is left. -/
theorem four_go (D : List Nat) : (D.length = 4 ∧ (Rd.mk D false).num 4 = val D ∧ ((Rd.mk D false).go 4).l.length = 0) ∨ (D.length ≠ 4 ∧ ((Rd.mk D false).num 4 = 0 ∨ 0 < ((Rd.mk D false).go 4).l.length)) := by
  by_cases h : 4 ≤ D.length
  · obtain ⟨g1, g2⟩ := fit_go (l := D) (n := 4) h
    have e2 : (Rd.mk D false).num 4 = val (D.take 4) := congrArg val g2
    have e1 : ((Rd.mk D false).go 4).l = D.drop 4 := congrArg Rd.l g1
    by_cases h4 : D.length = 4
    · refine .inl ⟨h4, by rw [e2, List.take_of_length_le (by omega)], ?_⟩
      rw [e1, List.length_drop]; omega
    · refine .inr ⟨h4, .inr ?_⟩
      rw [e1, List.length_drop]; omega
  · refine .inr ⟨by omega, .inl ?_⟩
    have hf : fails D false 4 = true := by simp [fails]; omega
    show val (got D false 4) = 0
    unfold got
    rw [hf, if_pos rfl]; rfl
theorem R_apart {W W' : World} {base n : Nat} {v : Value} {l : List Nat} {bad : Bool} {F : Nat → Prop} {B : Nat} (h : R W base n v l bad F) (hB : ∀ i k, W.cell? ⟨B, i, none⟩ ≠ some (.int .u8 k)) (hne : ¬ F B) (hk : ∀ k, k ≠ B → W'.heap[k]? = W.heap[k]?) (hs : W.heap.size ≤ W'.heap.size) : R W' base n v l bad F := by
  rcases h with h | ⟨b, s, h1, h2, h3, h4, h5, h6, h7, h8, rfl⟩
  · exact .inl h
  · exact .inr ⟨b, s, h1, h2, h3, Nat.le_trans h4 hs, (hk b (fun e => hne e.symm)).trans h5, u8_apart h6 hB hk hs, h7, h8, rfl⟩
/-- How many bytes a reader has left, by its box. -/
def rlen (W : World) (b : Nat) : Nat := match W.cell? ⟨b, 0, none⟩ with
  | some (.slice _ n _) => n
  | _ => 0
theorem R_rlen {W : World} {base n b : Nat} {l : List Nat} {bad : Bool} {F : Nat → Prop} (h : R W base n (.pointer (some ⟨b, 0, none⟩)) l bad F) : rlen W b = l.length := by
  rcases h with ⟨h, _⟩ | ⟨b', s, h1, h2, h3, h4, h5, h6, h7⟩
  · cases h
  · injection h1 with h1
    injection h1 with h1
    injection h1 with h1
    subst h1
    obtain ⟨A, c, rfl, -, -⟩ := h6.form
    unfold rlen
    rw [(cell0 h5).1]
theorem R_lt {W : World} {base n b : Nat} {l : List Nat} {bad : Bool} {F : Nat → Prop} (h : R W base n (.pointer (some ⟨b, 0, none⟩)) l bad F) : n ≤ W.heap.size := by
  rcases h with ⟨h, _⟩ | ⟨b', s, h1, h2, h3, h4, h5⟩
  · cases h
  · exact h4
/-- While parameters are read. -/
structure PrSt (w0 : World) (base n br B : Nat) (x : Rd) (o : Op) (W : World) : Prop where
  rd : R W base n (.pointer (some ⟨br, 0, none⟩)) x.l x.b (fun k => k = br)
  bo : Box4 W B 24 (.int .u32 o.an) (.int .i64 o.hold) (.int .u32 o.ri) (.bool o.four)
  rs : Box3 W w0.heap.size 32 (.int .i64 0) (.int .i64 0) (.slice none 0 0)
  on : Only (fun k => k = br ∨ k = B) w0 W
  ge : n ≤ w0.heap.size ∧ B < w0.heap.size ∧ B ≠ br
section
variable {w0 W W2 : World} {base n br B b2 n2 : Nat} {x y z : Rd} {o : Op} {G : Nat → Prop}
theorem PrSt.brl (h : PrSt w0 base n br B x o W) : br < w0.heap.size := Nat.lt_of_lt_of_le (h.rd.low br rfl).2 h.ge.1
theorem PrSt.below (h : PrSt w0 base n br B x o W) (hb : Below W.heap.size W W2) : PrSt w0 base n br B x o W2 :=
  ⟨h.rd.below hb, h.bo.keep hb, h.rs.keep hb, h.on.trans (Only.of hb), h.ge⟩
theorem PrSt.read (h : PrSt w0 base n br B x o W) (hr : R W2 base n (.pointer (some ⟨br, 0, none⟩)) y.l y.b (fun k => k = br)) (ho : Only (fun k => k = br) W W2) : PrSt w0 base n br B y o W2 :=
  ⟨hr, ⟨(ho.block _ h.bo.lt h.ge.2.2).trans h.bo.blk⟩, ⟨(ho.block _ h.rs.lt (fun e => by have := h.brl; omega)).trans h.rs.blk⟩, h.on.trans (ho.more fun k hk => .inl hk), h.ge⟩
/-- Blocks that are new have turned. -/
theorem PrSt.far (h : PrSt w0 base n br B x o W) (ho : Only G W W2) (hG : ∀ k, G k → w0.heap.size < k) : PrSt w0 base n br B x o W2 :=
  ⟨h.rd.far ho (fun k hk => by have := hG k hk; have := h.ge.1; omega), ⟨(ho.block _ h.bo.lt (fun hg => by have := hG _ hg; have := h.ge.2.1; omega)).trans h.bo.blk⟩, ⟨(ho.block _ h.rs.lt (fun hg => by have := hG _ hg; omega)).trans h.rs.blk⟩,
    ⟨ho.os.trans h.on.os, ho.tape.trans h.on.tape, ho.output.trans h.on.output, Nat.le_trans h.on.size ho.size, fun k hk hf => (ho.block k (Nat.lt_of_lt_of_le hk h.on.size) (fun hg => by have := hG k hg; omega)).trans (h.on.block k hk hf)⟩, h.ge⟩
theorem PrSt.no8 (h : PrSt w0 base n br B x o W) : ∀ i k, W.cell? ⟨B, i, none⟩ ≠ some (.int .u8 k) := h.bo.no8 (no8_u _) (no8_i _) (no8_u _) (no8_b _)
theorem set_off (W : World) (B i : Nat) (u : Value) : (∀ k, k ≠ B → (W.setCell ⟨B, i, none⟩ u).heap[k]? = W.heap[k]?) ∧ W.heap.size ≤ (W.setCell ⟨B, i, none⟩ u).heap.size :=
  ⟨fun k hk => Go.RowKit.Below.heap_setCell _ _ _ _ hk, by simp⟩
theorem PrSt.set3 (h : PrSt w0 base n br B x o W) : PrSt w0 base n br B x ⟨o.an, o.hold, o.ri, true⟩ (W.setCell ⟨B, 3, none⟩ (.bool true)) :=
  ⟨R_apart h.rd h.no8 h.ge.2.2 (set_off W B 3 _).1 (set_off W B 3 _).2, h.bo.set3 _, h.rs.far (by have := h.ge.2.1; omega) _, h.on.set (.inr rfl) _, h.ge⟩
theorem PrSt.set0 (h : PrSt w0 base n br B x o W) (a : Nat) : PrSt w0 base n br B x ⟨a, o.hold, o.ri, o.four⟩ (W.setCell ⟨B, 0, none⟩ (.int .u32 a)) :=
  ⟨R_apart h.rd h.no8 h.ge.2.2 (set_off W B 0 _).1 (set_off W B 0 _).2, h.bo.set0 _, h.rs.far (by have := h.ge.2.1; omega) _, h.on.set (.inr rfl) _, h.ge⟩
/-- While capabilities of one parameter are read. -/
structure InSt (w0 : World) (base n br B : Nat) (x : Rd) (b2 n2 : Nat) (y : Rd) (o : Op) (W : World) : Prop where
  pr : PrSt w0 base n br B x o W
  ls : R W (w0.heap.size + 1) n2 (.pointer (some ⟨b2, 0, none⟩)) y.l y.b (fun k => k = b2)
theorem InSt.lt (h : InSt w0 base n br B x b2 n2 y o W) : w0.heap.size < b2 ∧ b2 < n2 ∧ n2 ≤ W.heap.size :=
  ⟨(h.ls.low b2 rfl).1, (h.ls.low b2 rfl).2, R_lt h.ls⟩
theorem InSt.below (h : InSt w0 base n br B x b2 n2 y o W) (hb : Below W.heap.size W W2) : InSt w0 base n br B x b2 n2 y o W2 := ⟨h.pr.below hb, h.ls.below hb⟩
theorem InSt.read (h : InSt w0 base n br B x b2 n2 y o W) (hr : R W2 (w0.heap.size + 1) n2 (.pointer (some ⟨b2, 0, none⟩)) z.l z.b (fun k => k = b2)) (ho : Only (fun k => k = b2) W W2) : InSt w0 base n br B x b2 n2 z o W2 :=
  ⟨h.pr.far ho (fun k hk => by subst hk; exact h.lt.1), hr⟩
theorem InSt.start (h : PrSt w0 base n br B x o W) (hr : R W (w0.heap.size + 1) n2 (.pointer (some ⟨b2, 0, none⟩)) y.l y.b (fun k => k = b2)) : InSt w0 base n br B x b2 n2 y o W := ⟨h, hr⟩
/-- .. and a capability's value. -/
structure VaSt (w0 : World) (base n br B : Nat) (x : Rd) (b2 n2 : Nat) (y : Rd) (b3 n3 : Nat) (z : Rd) (o : Op) (W : World) : Prop where
  ins : InSt w0 base n br B x b2 n2 y o W
  vl : R W n2 n3 (.pointer (some ⟨b3, 0, none⟩)) z.l z.b (fun k => k = b3)
theorem VaSt.ge {b3 n3 : Nat} (h : VaSt w0 base n br B x b2 n2 y b3 n3 z o W) : n2 ≤ b3 := (h.vl.low b3 rfl).1
theorem VaSt.below {b3 n3 : Nat} (h : VaSt w0 base n br B x b2 n2 y b3 n3 z o W) (hb : Below W.heap.size W W2) : VaSt w0 base n br B x b2 n2 y b3 n3 z o W2 := ⟨h.ins.below hb, h.vl.below hb⟩
theorem VaSt.read {b3 n3 : Nat} {u : Rd} (h : VaSt w0 base n br B x b2 n2 y b3 n3 z o W) (hr : R W2 n2 n3 (.pointer (some ⟨b3, 0, none⟩)) u.l u.b (fun k => k = b3)) (ho : Only (fun k => k = b3) W W2) : VaSt w0 base n br B x b2 n2 y b3 n3 u o W2 :=
  ⟨⟨h.ins.pr.far ho (fun k hk => by subst hk; have := h.ge; have := h.ins.lt; omega), h.ins.ls.far ho (fun k hk => by subst hk; exact h.ge)⟩, hr⟩
theorem VaSt.set3 {b3 n3 : Nat} (h : VaSt w0 base n br B x b2 n2 y b3 n3 z o W) : VaSt w0 base n br B x b2 n2 y b3 n3 z ⟨o.an, o.hold, o.ri, true⟩ (W.setCell ⟨B, 3, none⟩ (.bool true)) :=
  ⟨⟨h.ins.pr.set3, R_apart h.ins.ls h.ins.pr.no8 (fun e => by have := h.ins.lt; have := h.ins.pr.ge.2.1; omega) (set_off W B 3 _).1 (set_off W B 3 _).2⟩, R_apart h.vl h.ins.pr.no8 (fun e => by have := h.ge; have := h.ins.lt; have := h.ins.pr.ge.2.1; omega) (set_off W B 3 _).1 (set_off W B 3 _).2⟩
theorem VaSt.set0 {b3 n3 : Nat} (h : VaSt w0 base n br B x b2 n2 y b3 n3 z o W) (a : Nat) : VaSt w0 base n br B x b2 n2 y b3 n3 z ⟨a, o.hold, o.ri, o.four⟩ (W.setCell ⟨B, 0, none⟩ (.int .u32 a)) :=
  ⟨⟨h.ins.pr.set0 a, R_apart h.ins.ls h.ins.pr.no8 (fun e => by have := h.ins.lt; have := h.ins.pr.ge.2.1; omega) (set_off W B 0 _).1 (set_off W B 0 _).2⟩, R_apart h.vl h.ins.pr.no8 (fun e => by have := h.ge; have := h.ins.lt; have := h.ins.pr.ge.2.1; omega) (set_off W B 0 _).1 (set_off W B 0 _).2⟩
end
theorem PrSt.start {w : World} {base n br B : Nat} {x : Rd} {o : Op} (hR : R w base n (.pointer (some ⟨br, 0, none⟩)) x.l x.b (fun k => k = br)) (hB : Box4 w B 24 (.int .u32 o.an) (.int .i64 o.hold) (.int .u32 o.ri) (.bool o.four)) (hn : n ≤ w.heap.size) (hne : B ≠ br) :
    PrSt w base n br B x o (w.alloc (.cells #[.int .i64 0, .int .i64 0, .slice none 0 0] 32)) := by
  have hb : Below w.heap.size w (w.alloc (.cells #[.int .i64 0, .int .i64 0, .slice none 0 0] 32)) := (Below.refl _ w).alloc (Nat.le_refl _) _
  exact ⟨hR.below hb, hB.keep hb, Box3.new _ _ _ _ _, Only.of hb, hn, hB.lt, hne⟩
/-- What read gives. -/
def ReadF (B br : Nat) (o : Op) (l : List Nat) (w : World) (e : Ending) (w' : World) : Prop :=
  Only (fun k => k = br ∨ k = B) w w' ∧ ((∃ o2, pars o l = .inr o2 ∧ e = .returned (.agg #[.int .i64 0, .int .i64 0, .slice none 0 0]) ∧ Box4 w' B 24 (.int .u32 o2.an) (.int .i64 o2.hold) (.int .u32 o2.ri) (.bool o2.four)) ∨
    ∃ s : Nat, pars o l = .inl s ∧ (s = 0 ∨ s = 4) ∧ e = .returned (.agg #[.int .i64 2, .int .i64 s, .slice none 0 0]))
theorem PrSt.fin {w W : World} {base n br B : Nat} {x : Rd} {o : Op} (h : PrSt w base n br B x o W) (a b c : Value) : Only (fun k => k = br ∨ k = B) w (three W w.heap.size a b c) ∧ Box4 (three W w.heap.size a b c) B 24 (.int .u32 o.an) (.int .i64 o.hold) (.int .u32 o.ri) (.bool o.four) := by
  have ho := three_off W w.heap.size a b c
  exact ⟨⟨h.on.os, h.on.tape, h.on.output, Nat.le_trans h.on.size ho.2, fun k hk hf => (ho.1 k (by omega)).trans (h.on.block k hk hf)⟩, ⟨(ho.1 B (by have := h.ge.2.1; omega)).trans h.bo.blk⟩⟩
end Go.Proofs.Ytkkfnpacejdlnaa.Opn
