/- A writer as it stands in memory; what its calls write. -/
import Derived.Test.YtgeekckoepnccaaOctBig
namespace Go.Proofs.Ytgeekckoepnccaa.Oct
open Go.RowKit Mem Ahead

/-- A writer of these bytes stands in these blocks. -/
def Wr (W : World) (base : Nat) (v : Value) (l : List Nat) (F : Nat → Prop) : Prop :=
  ∃ b s, v = .pointer (some ⟨b, 0, none⟩) ∧ base ≤ b ∧ W.heap[b]? = some (.cells #[s] 62) ∧ W.ownsRow base 5 1 s l.length (cells8 l) ∧ Small l ∧ s.ownBlock ≠ some b ∧ F = fun k => k = b ∨ s.ownBlock = some k
/-- The blocks are the old ones, or new. -/
def Grow (F F' : Nat → Prop) (W : World) : Prop := ∀ k, F' k → F k ∨ W.heap.size ≤ k
theorem Wr.lt {W : World} {base : Nat} {v : Value} {l : List Nat} {F : Nat → Prop} (h : Wr W base v l F) : ∀ k, F k → base ≤ k ∧ k < W.heap.size := by
  obtain ⟨b, s, rfl, h2, h3, h4, h5, h6, rfl⟩ := h
  rintro k (rfl | hk)
  · exact ⟨h2, (Array.getElem?_eq_some_iff.1 h3).1⟩
  · exact h4.lt k hk
theorem own_same {W W' : World} {base : Nat} {e : TypeId} {v : Value} {n : Nat} {xs : List Value} (h : W.ownsRow base e 1 v n xs) (hk : ∀ g, v.ownBlock = some g → W'.heap[g]? = W.heap[g]?) : W'.ownsRow base e 1 v n xs := by
  obtain ⟨h1, h2⟩ := h
  refine ⟨h1, ?_⟩
  rcases h2 with h2 | ⟨g, cap, cur, hv, hg, hh, r⟩
  · exact .inl h2
  · exact .inr ⟨g, cap, cur, hv, hg, (hk g (by rw [hv]; rfl)).trans hh, r⟩
theorem Wr.keep {W W' : World} {base : Nat} {v : Value} {l : List Nat} {F : Nat → Prop} (h : Wr W base v l F) (hk : ∀ k, F k → W'.heap[k]? = W.heap[k]?) : Wr W' base v l F := by
  obtain ⟨b, s, h1, h2, h3, h4, h5, h6, rfl⟩ := h
  exact ⟨b, s, h1, h2, (hk b (.inl rfl)).trans h3, own_same h4 (fun g hg => hk g (.inr hg)), h5, h6, rfl⟩
theorem Wr.below {W W' : World} {base : Nat} {v : Value} {l : List Nat} {F : Nat → Prop} (h : Wr W base v l F) (hb : Below W.heap.size W W') : Wr W' base v l F :=
  h.keep fun k hk => hb.block k (h.lt k hk).2
theorem cell1 {W : World} {b : Nat} {x : Value} {t : TypeId} (h : W.heap[b]? = some (.cells #[x] t)) : W.cell? ⟨b, 0, none⟩ = some x ∧ W.frozen? ⟨b, 0, none⟩ = false := by
  simp [World.cell?, World.frozen?, h]
/-- What writing gives: the writer itself. -/
def AddF (base : Nat) (v x : Value) (l : List Nat) (F : Nat → Prop) (w : World) (e : Ending) (w' : World) : Prop :=
  ∃ F', e = .returned x ∧ Wr w' base v l F' ∧ Only F w w' ∧ Grow F F' w
theorem add_end {base b : Nat} {s : Value} {A1 : Option Addr} {c1 : Nat} {l m : List Nat} {w w1 W : World} (hb0 : base ≤ b) (h3 : w.heap[b]? = some (.cells #[s] 62)) (h6 : s.ownBlock ≠ some b) (hl : Small l) (hm : Small m)
    (hown : w1.ownsRow base 5 1 (.slice A1 (l ++ m).length c1) (l ++ m).length (cells8 l ++ cells8 m)) (hg : w.grownBy w1 s.ownBlock) (hat : (Value.slice A1 (l ++ m).length c1).ownBlock = s.ownBlock ∨ (Value.slice A1 (l ++ m).length c1).ownBlock = some w.heap.size)
    (hW : W = w1.setCell ⟨b, 0, none⟩ (.slice A1 (l ++ m).length c1)) :
    AddF base (.pointer (some ⟨b, 0, none⟩)) (.pointer (some ⟨b, 0, none⟩)) (l ++ m) (fun k => k = b ∨ s.ownBlock = some k) w (.returned (.pointer (some ⟨b, 0, none⟩))) W := by
  subst hW
  have hlt : b < w.heap.size := (Array.getElem?_eq_some_iff.1 h3).1
  have hb1 : w1.heap[b]? = some (.cells #[s] 62) := (hg.block b hlt (fun e => h6 e.symm)).trans h3
  have hne : (Value.slice A1 (l ++ m).length c1).ownBlock ≠ some b := by
    rcases hat with h | h
    · rw [h]; exact h6
    · rw [h]; intro e; injection e with e; omega
  have ho1 : Only (fun k => k = b ∨ s.ownBlock = some k) w w1 := ⟨hg.os, hg.tape, hg.output, hg.size, fun k hk hf => hg.block k hk (fun e => hf (.inr e.symm))⟩
  refine ⟨fun k => k = b ∨ (Value.slice A1 (l ++ m).length c1).ownBlock = some k, rfl, ⟨b, _, rfl, hb0, one_setCell hb1, ?_, hl.append hm, hne, rfl⟩, ho1.set (.inl rfl) _, fun k hk => ?_⟩
  · rw [cells8_append]
    exact own_same hown fun g hg => Below.heap_setCell _ _ _ _ (fun e => hne (by rw [hg, e]))
  · rcases hk with rfl | hk
    · exact .inl (.inl rfl)
    · rcases hat with h | h
      · exact .inl (.inr (h ▸ hk))
      · rw [hk] at h
        injection h with h
        exact .inr (by omega)
set_option maxHeartbeats 1000000 in
theorem add_any (v x : Value) (base : Nat) (l m : List Nat) (F : Nat → Prop) (w : World) (hW : Wr w base v l F) (hx : U8s w x m) (hlen : l.length + m.length ≤ 1000000) (hbase : base ≤ w.heap.size) :
    Calls Try.prog 38 #[v, x] w (AddF base v v (l ++ m) F w) := by
  obtain ⟨i0, E0⟩ := elem8
  obtain ⟨b, s, rfl, h2, h3, h4, h5, h6, rfl⟩ := hW
  obtain ⟨c0, f0⟩ := cell1 h3
  have hlt : b < w.heap.size := (Array.getElem?_eq_some_iff.1 h3).1
  have H2 := Go.Lib.hid h2
  have H3 := Go.Lib.hid h3
  have H4 := Go.Lib.hid h4
  have H5 := Go.Lib.hid h5
  have H6 := Go.Lib.hid h6
  have HX := Go.Lib.hid hx
  have HN := Go.Lib.hid (show (l ++ m).length = l.length + m.length from List.length_append)
  have HEND := Go.Lib.hid (fun A1 c1 w1 W => @add_end base b s A1 c1 l m w w1 W h2 h3 h6 h5 hx.2)
  clear h2 h3 h4 h5 h6 hx
  generalize (l ++ m).length = N at HN HEND
  go_enter Try.func38, Try.ntmps38
  go_wp2_with (at_builtin; refine wpList_append_row rfl (.tmp 11) (.tmp 12) rfl E0 base s l.length _ rfl H4.out x m.length _ rfl HX.out.1 (ones8 _) (by unfold maxLen; omega) (by omega) hbase N (HN.out.symm) ?_; intro A1 c1 w1 hown1 hg1 hat1 hb1; obtain ⟨c1', f1'⟩ := cell1 ((hg1.block b hlt (fun e => H6.out e.symm)).trans H3.out); have HE := Go.Lib.hid (HEND.out A1 c1 w1 _ hown1 hg1 hat1 rfl); clear hown1 hg1 hat1 hb1)
  go_ret
  exact HE.out
theorem add_nil (x : Value) (w : World) : Calls Try.prog 38 #[.pointer none, x] w (Tells (.pointer none) w) := by
  have HB := Go.Lib.hid (Below.refl w.heap.size w)
  go_enter Try.func38, Try.ntmps38
  go_wp2
  go_ret
  exact ⟨rfl, HB.out⟩
end Go.Proofs.Ytgeekckoepnccaa.Oct
