/- OctetReads: what a round lays ahead of its call. -/
import Derived.Test.YtkomelckmhnpeaaReadsKit
import Derived.Test.YtkomelckmhnpeaaOctOpenSlices
namespace Go.Proofs.Ytkomelckmhnpeaa.Oct
open Go.RowKit Mem Ahead Kit

theorem R.lower {W : World} {base base' n : Nat} {v : Value} {l : List Nat} {bad : Bool} {F : Nat → Prop} (h : R W base n v l bad F) (hb : base' ≤ base) : R W base' n v l bad F := by
  rcases h with h | ⟨b, s, h1, h2, h3⟩
  · exact .inl h
  · exact .inr ⟨b, s, h1, Nat.le_trans hb h2, h3⟩
theorem empty8 (W : World) (A : Option Addr) (c : Nat) (hc : c ≤ maxLen) : U8s W (.slice A 0 c) [] := ⟨⟨rfl, A, c, rfl, Nat.zero_le _, hc, fun h => absurd h (Nat.lt_irrefl 0)⟩, small_nil⟩
theorem aside_new {W : World} {F : Nat → Prop} {g : Nat} (h1 : g < W.heap.size) (h2 : ¬ F g) : Aside W F (.slice (some ⟨g, 0, none⟩) 0 0) [] :=
  ⟨empty8 W _ _ (by decide), fun j hj => by
    obtain rfl : g = j := by simpa [Value.ownBlock] using hj
    exact ⟨h1, h2⟩⟩
/-- More is asked for than there is. -/
theorem sw_failed {w : World} {n : Nat} {P v : Value} {F : Nat → Prop} {l : List Nat} {bd : Bool} {k : Int} {W W' : World} {g1 g2 : Nat} (h : Rd w n P F l bd v W) (hl : Small l) (hf : fails l bd k = true) (hb : Below W.heap.size W W') (h1 : W.heap.size ≤ g1) (h2 : g1 < W'.heap.size) (h3 : W.heap.size ≤ g2) (h4 : g2 < W'.heap.size) :
    Sw w n P F l bd k (.slice (some ⟨g1, 0, none⟩) 0 0) (.slice (some ⟨g2, 0, none⟩) 0 0) W' := by
  have hn : ∀ j, F j → j < n := fun j hj => (h.rd.low j hj).2
  have e := fails_of hf
  refine ⟨h.rd.below hb, ?_, ?_, h.below.trans (hb.mono h.below.size), Nat.le_trans h.nle hb.size, h.big, hl⟩
  · rw [e.2]; exact aside_new h2 (fun hf => by have := hn _ hf; have := h.nle; omega)
  · rw [e.1]; exact aside_new h4 (fun hf => by have := hn _ hf; have := h.nle; omega)
/-- There is as much as is asked for. -/
theorem sw_ok {w : World} {n : Nat} {P X : Value} {F : Nat → Prop} {l : List Nat} {A : Option Addr} {c k : Nat} {W W' : World} (h : Rd w n P F l false (.slice A l.length c) W) (hl : Small l) (hb : Below W.heap.size W W') (hk : k ≤ l.length)
    (hX : X = .slice (if c = k then A else A.map (fun x => x.add k)) (l.length - k) (c - k)) : Sw w n P F l false (k : Int) X (.slice A k c) W' := by
  have hf : fails l false (k : Int) = false := by
    simp only [fails, Bool.false_or, Bool.or_eq_false_iff, decide_eq_false_iff_not]
    omega
  have hg : got l false (k : Int) = l.take k := by simp [got, hf]
  have hr : rest l false (k : Int) = l.drop k := by simp [rest, hf]
  have h2 := h.left.below hb
  have hcm : c ≤ maxLen := by
    obtain ⟨⟨_, _, _, e, _, h9, _⟩, _⟩ := h2.1
    injection e with e1 e2 e3
    omega
  obtain ⟨_, c2, e, hlc, _⟩ := h2.1.form
  injection e with e1 e2 e3
  subst e3
  refine ⟨h.rd.below hb, ?_, ?_, h.below.trans (hb.mono h.below.size), Nat.le_trans h.nle hb.size, h.big, hl⟩
  · rw [hr, hX]
    exact ⟨h2.1.cut hk, fun g hg => h2.2 g (cut_own hg)⟩
  · rw [hg]
    exact ⟨h2.1.prefix_ hk (by omega) hcm, fun g hg => h2.2 g (own_at hg)⟩
theorem sw_none {w : World} {n : Nat} {P v : Value} {F : Nat → Prop} {l : List Nat} {bd : Bool} {k : Int} {W : World} (h : Rd w n P F l bd v W) (hl : Small l) (hf : fails l bd k = true) :
    Sw w n P F l bd k (.slice (some ⟨W.heap.size + 1, 0, none⟩) 0 0) (.slice (some ⟨W.heap.size, 0, none⟩) 0 0) ((W.alloc (.cells #[] 5)).alloc (.cells #[] 5)) :=
  sw_failed h hl hf (((Below.refl _ _).alloc (Nat.le_refl _) _).alloc (by simp) _) (by omega) (by simp) (Nat.le_refl _) (by simp; omega)
theorem sw_some {w : World} {n : Nat} {P X : Value} {F : Nat → Prop} {l : List Nat} {A : Option Addr} {c k q : Nat} {W : World} (h : Rd w n P F l false (.slice A l.length c) W) (hl : Small l) (hk : k ≤ l.length)
    (hX : X = .slice (if c = k then A else A.map (fun x => x.add k)) (l.length - k) (c - k)) : Sw w n P F l false (k : Int) X (.slice A k c) ((W.alloc (.cells #[] 5)).drewN q) :=
  sw_ok h hl (((Below.refl _ _).alloc (Nat.le_refl _) _).trans ((Mem.below_drewN _ q).mono (by simp))) hk hX
theorem got_length {l : List Nat} {k : Nat} (hk : k ≤ l.length) : k = (got l false (k : Int)).length := by
  have hf : fails l false (k : Int) = false := by
    simp only [fails, Bool.false_or, Bool.or_eq_false_iff, decide_eq_false_iff_not]
    omega
  simp [got, hf]; omega
theorem rest_length {l : List Nat} {k : Nat} (hk : k ≤ l.length) : l.length - k = (rest l false (k : Int)).length := by
  have hf : fails l false (k : Int) = false := by
    simp only [fails, Bool.false_or, Bool.or_eq_false_iff, decide_eq_false_iff_not]
    omega
  simp [rest, hf]
theorem fails_ok {l : List Nat} {k : Nat} (hk : k ≤ l.length) : fails l false (k : Int) = false := by
  simp only [fails, Bool.false_or, Bool.or_eq_false_iff, decide_eq_false_iff_not]
  omega
theorem fails_bad (l : List Nat) (k : Int) : fails l true k = true := by simp [fails]
theorem fails_low (l : List Nat) {k : Int} (h : k < 0) : fails l false k = true := by simp [fails, h]
theorem fails_long {l : List Nat} {k : Int} (h : (l.length : Int) < k) : fails l false k = true := by simp [fails, h]
theorem rest_small {l : List Nat} {bd : Bool} {k : Int} (h : Small l) : Small (rest l bd k) := by
  unfold rest
  split
  · exact small_nil
  · exact h.drop _
/-- The reader, and what is left, at the beginning. -/
theorem rd_start {w w1 w2 w3 : World} {A : Option Addr} {c b : Nat} {l : List Nat} (hl : Small l) (hlen : l.length ≤ 200) (ho : w1.ownsRow w.heap.size 5 1 (.slice A l.length c) l.length (cells8 l)) (h1 : Below w.heap.size w w1) (h2 : Below w1.heap.size w1 w2)
    (hr : R w3 w2.heap.size w3.heap.size (.pointer (some ⟨b, 0, none⟩)) l false (fun k => k = b)) (h3 : Below w2.heap.size w2 w3) : Rd w w3.heap.size (.pointer (some ⟨b, 0, none⟩)) (fun k => k = b) l false (.slice A l.length c) w3 := by
  have h13 := h2.trans (h3.mono h2.size)
  have h02 := Nat.le_trans h1.size h2.size
  refine ⟨hr.lower h02, ⟨(U8s.of_own ho hl).keep h13, fun g hg => ?_⟩, h1.trans (h13.mono h1.size), Nat.le_refl _, hlen⟩
  have g1 := (ho.lt g hg).2
  have g2 := (hr.low b rfl).1
  have g3 := h13.size
  exact ⟨by omega, fun e => by have e2 : g = b := e; have := h2.size; omega⟩
theorem I64s.at_ {w : World} {l : List Int} {A : Option Addr} {n c k : Nat} (h : I64s w (.slice A n c) l) (hk : k < l.length) : ∃ b off x, A = some ⟨b, off, none⟩ ∧ b < w.heap.size ∧ l[k]? = some x ∧ (Lit.int .i64 x).wf = true ∧ w.cell? ⟨b, off + k, none⟩ = some (.int .i64 x) := by
  obtain ⟨⟨_, A', c', e, hn, hc, hr⟩, hl⟩ := h
  injection e with e1 e2 e3
  subst e1
  obtain ⟨b, off, hA, hlt, hcell⟩ := hr (by omega)
  refine ⟨b, off, l[k], hA, hlt, List.getElem?_eq_getElem hk, hl _ (List.getElem_mem hk), hcell k _ ?_⟩
  rw [List.getElem?_map, List.getElem?_eq_getElem hk]; rfl
theorem I64s.form {w : World} {v : Value} {l : List Int} (h : I64s w v l) : ∃ A c, v = .slice A l.length c ∧ l.length ≤ c := by
  obtain ⟨⟨_, A, c, rfl, hn, _⟩, _⟩ := h
  exact ⟨A, c, rfl, hn⟩
end Go.Proofs.Ytkomelckmhnpeaa.Oct
