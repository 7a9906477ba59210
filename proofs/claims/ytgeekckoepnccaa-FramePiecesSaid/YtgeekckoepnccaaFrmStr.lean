/- A stream as it stands in memory; New, Waits, Broken, Reset; no stream; a broken one that is fed. -/
import Derived.Test.YtgeekckoepnccaaFrmLoop
import Derived.Test.YtgeekckoepnccaaFrmHead
namespace Go.Proofs.Ytgeekckoepnccaa.Frm
open Go.RowKit Mem Oct Att
open Go.Lib (hid)

/-- A stream in which these bytes wait stands in these blocks. -/
def StrT : Strm := fun W base v l br F => ∃ b s, v = .pointer (some ⟨b, 0, none⟩) ∧ base ≤ b ∧ W.heap[b]? = some (.cells #[s, .bool br] 50) ∧ W.ownsRow base 5 1 s l.length (cells8 l) ∧ Small l ∧ s.ownBlock ≠ some b ∧ F = fun k => k = b ∨ s.ownBlock = some k
theorem str_low {W : World} {base : Nat} {v : Value} {l : List Nat} {br : Bool} {F : Nat → Prop} (h : StrT W base v l br F) : ∀ k, F k → base ≤ k ∧ k < W.heap.size := by
  obtain ⟨b, s, rfl, h2, h3, h4, h5, h6, rfl⟩ := h
  rintro k (rfl | hk)
  · exact ⟨h2, (Array.getElem?_eq_some_iff.1 h3).1⟩
  · exact h4.lt k hk
theorem str_keep {W W' : World} {base : Nat} {v : Value} {l : List Nat} {br : Bool} {F : Nat → Prop} (h : StrT W base v l br F) (hk : ∀ k, F k → W'.heap[k]? = W.heap[k]?) (_ : W.heap.size ≤ W'.heap.size) : StrT W' base v l br F := by
  obtain ⟨b, s, h1, h2, h3, h4, h5, h6, rfl⟩ := h
  exact ⟨b, s, h1, h2, (hk b (.inl rfl)).trans h3, own_same h4 (fun g hg => hk g (.inr hg)), h5, h6, rfl⟩
theorem str_new (W : World) : Calls Try.prog 7 #[] W (fun e W' => ∃ b F, e = .returned (.pointer (some ⟨b, 0, none⟩)) ∧ StrT W' W.heap.size (.pointer (some ⟨b, 0, none⟩)) [] false F ∧ Below W.heap.size W W') := by
  have HB := hid (show Below W.heap.size W (W.alloc (.cells #[.slice none 0 0, .bool false] 50)) from (Below.refl _ _).alloc (Nat.le_refl _) _)
  have HT := hid (show StrT (W.alloc (.cells #[.slice none 0 0, .bool false] 50)) W.heap.size (.pointer (some ⟨W.heap.size, 0, none⟩)) [] false _ from ⟨W.heap.size, .slice none 0 0, rfl, Nat.le_refl _, heap_alloc_new _ _, World.ownsRow_nil _ _ _ _, small_nil, by simp [Value.ownBlock], rfl⟩)
  go_enter Try.func7, Try.ntmps7
  go_wp2
  go_ret
  exact ⟨_, _, rfl, HT.out, HB.out⟩
theorem str_waits {base : Nat} {v : Value} {l : List Nat} {br : Bool} {F : Nat → Prop} {W : World} (h : StrT W base v l br F) : Calls Try.prog 10 #[v] W (Tells (.int .i64 l.length) W) := by
  obtain ⟨b, s, rfl, h2, h3, h4, h5, h6, rfl⟩ := h
  obtain ⟨A, c, rfl⟩ := own_form h4
  obtain ⟨c0, c1⟩ := cell0 h3
  have HB := hid (Below.refl W.heap.size W)
  clear h2 h3 h4 h5 h6
  go_enter Try.func10, Try.ntmps10
  go_wp2
  go_ret
  exact ⟨rfl, HB.out⟩
theorem str_broken {base : Nat} {v : Value} {l : List Nat} {br : Bool} {F : Nat → Prop} {W : World} (h : StrT W base v l br F) : Calls Try.prog 11 #[v] W (Tells (.bool br) W) := by
  obtain ⟨b, s, rfl, h2, h3, h4, h5, h6, rfl⟩ := h
  obtain ⟨c0, c1⟩ := cell0 h3
  have HB := hid (Below.refl W.heap.size W)
  clear h2 h3 h4 h5 h6
  go_enter Try.func11, Try.ntmps11
  go_wp2
  go_ret
  exact ⟨rfl, HB.out⟩
theorem str_reset {base : Nat} {v : Value} {l : List Nat} {br : Bool} {F : Nat → Prop} {W : World} (h : StrT W base v l br F) : Calls Try.prog 15 #[v] W (fun e W' => ∃ F', e = .returned (.tuple #[]) ∧ StrT W' base v [] false F' ∧ Only F W W' ∧ Grow F F' W) := by
  obtain ⟨b, s, rfl, h2, h3, h4, h5, h6, rfl⟩ := h
  obtain ⟨f0, f1⟩ := free0 h3
  obtain ⟨c0, c1⟩ := cell0 h3
  have HR := hid (show _ ∧ _ ∧ _ from And.intro (show StrT ((W.setCell ⟨b, 0, none⟩ (.slice none 0 0)).setCell ⟨b, 1, none⟩ (.bool false)) base (.pointer (some ⟨b, 0, none⟩)) [] false _ from ⟨b, .slice none 0 0, rfl, h2, set1 _ (set0 _ h3), World.ownsRow_nil _ _ _ _, small_nil, by simp [Value.ownBlock], rfl⟩)
    (And.intro (show Only (fun k => k = b ∨ s.ownBlock = some k) W ((W.setCell ⟨b, 0, none⟩ (.slice none 0 0)).setCell ⟨b, 1, none⟩ (.bool false)) from ((Only.refl _ _).set (.inl rfl) _).set (.inl rfl) _) (show Grow (fun k => k = b ∨ s.ownBlock = some k) (fun k => k = b ∨ (Value.slice none 0 0).ownBlock = some k) W from fun k hk => .inl (hk.elim .inl (fun h => by simp [Value.ownBlock] at h)))))
  clear h2 h3 h4 h5 h6
  go_enter Try.func15, Try.ntmps15
  go_wp2
  refine bodyPost_end (v := .tuple #[]) (by simp [results, Try.results15, go_sem]) rfl ?_
  exact ⟨_, rfl, HR.out.1, HR.out.2.1, HR.out.2.2⟩
set_option maxHeartbeats 1000000 in
theorem str_stop {base : Nat} {v x : Value} {l b : List Nat} {F : Nat → Prop} {W : World} (h : StrT W base v l true F) (_ : U8s W x b) (_ : b.length ≤ 1000) :
    Calls Try.prog 9 #[v, x] W (fun e W' => ∃ A c A2 k2 c2 F', e = .returned (.tuple #[.slice A 0 c, .agg #[.int .i64 0, .int .i64 0, .slice A2 k2 c2]]) ∧ StrT W' base v l true F' ∧ Only F W W' ∧ Grow F F' W) := by
  have hb := box_low W (.int .i64 0) (.int .i64 0) (.slice none 0 0)
  have HR := hid (And.intro (str_keep h (fun k hk => hb.block k (str_low h k hk).2) hb.size) (Only.of (F := F) hb))
  obtain ⟨b, s, rfl, h2, h3, h4, h5, h6, rfl⟩ := h
  obtain ⟨c0, c1⟩ := cell0 h3
  have hlt := (Array.getElem?_eq_some_iff.1 h3).1
  clear h2 h3 h4 h5 h6 hb
  go_enter Try.func9, Try.ntmps9
  go_wp2
  refine bodyPost_ret (v := .tuple #[.slice none 0 0, .agg #[.int .i64 0, .int .i64 0, .slice none 0 0]]) (by simp [results, Try.results9, go_sem]) rfl ?_
  exact ⟨none, 0, none, 0, 0, _, rfl, HR.out.1, HR.out.2, fun k hk => .inl hk⟩
theorem none_feed (v : Value) (b : List Nat) (W : World) (_ : U8s W v b) (_ : b.length ≤ 50) : Calls Try.prog 9 #[.pointer none, v] W (fun e w' => ∃ A c A2 k2 c2, e = .returned (.tuple #[.slice A 0 c, .agg #[.int .i64 0, .int .i64 0, .slice A2 k2 c2]]) ∧ Below W.heap.size W w') := by
  have hb := hid (box_low W (.int .i64 0) (.int .i64 0) (.slice none 0 0))
  go_enter Try.func9, Try.ntmps9
  go_wp2
  refine bodyPost_ret (v := .tuple #[.slice none 0 0, .agg #[.int .i64 0, .int .i64 0, .slice none 0 0]]) (by simp [results, Try.results9, go_sem]) rfl ?_
  exact ⟨none, 0, none, 0, 0, rfl, hb.out⟩
theorem none_reset (W : World) : Calls Try.prog 15 #[.pointer none] W (fun e w' => e = .returned (.tuple #[]) ∧ Below W.heap.size W w') := by
  have HB := hid (Below.refl W.heap.size W)
  go_enter Try.func15, Try.ntmps15
  go_wp2
  refine bodyPost_end (v := .tuple #[]) (by simp [results, Try.results15, go_sem]) rfl ?_
  exact ⟨rfl, HB.out⟩
theorem none_waits (W : World) : Calls Try.prog 10 #[.pointer none] W (Tells (.int .i64 0) W) := by
  have HB := hid (Below.refl W.heap.size W)
  go_enter Try.func10, Try.ntmps10
  go_wp2
  go_ret
  exact ⟨rfl, HB.out⟩
theorem none_broken (W : World) : Calls Try.prog 11 #[.pointer none] W (Tells (.bool false) W) := by
  have HB := hid (Below.refl W.heap.size W)
  go_enter Try.func11, Try.ntmps11
  go_wp2
  go_ret
  exact ⟨rfl, HB.out⟩
end Go.Proofs.Ytgeekckoepnccaa.Frm
