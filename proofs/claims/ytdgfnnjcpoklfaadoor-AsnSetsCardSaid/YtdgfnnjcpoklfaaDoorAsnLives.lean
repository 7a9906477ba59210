/- The statements' small living call over sets of numbers: it answers true in every world. -/
import Derived.Test.YtdgfnnjcpoklfaaDoorSetMake
import Derived.Test.YtdgfnnjcpoklfaaDoorNumText
namespace Go.Proofs.YtdgfnnjcpoklfaaDoor.Nums
open Go.RowKit Mem Rise Pfx Dec

theorem live_set : setOf [5, 1, 5] = [1, 5] := by decide
theorem live_text : strOf (textL [1, 5]) = ⟨#[49, 32, 53]⟩ := by
  have d1 : dec 1 = [49] := dec_one (by omega)
  have d5 : dec 5 = [53] := dec_one (by omega)
  unfold textL strOf
  rw [if_neg (by simp)]
  simp [joinS, d1, d5]
theorem build_u32 (w : World) (l : List Nat) (hl : ∀ n ∈ l, n < 4294967296) (hlen : l.length ≤ maxLen) : U32s (w.alloc (.cells (l.map fun n : Nat => Value.int .u32 n).toArray 23)) (.slice (some ⟨w.heap.size, 0, none⟩) l.length l.length) l := by
  refine ⟨Row.of_own (base := 0) (e := 23) ⟨by simp, .inr ⟨w.heap.size, l.length, _, rfl, Nat.zero_le _, heap_alloc_new _ _, Nat.le_refl _, hlen, by simp, ?_⟩⟩, hl⟩
  exact List.take_of_length_le (by simp)

set_option maxRecDepth 100000 in
set_option maxHeartbeats 2000000 in
theorem lives_any (w : World) : Calls Tryd.prog 19 #[] w (Tells (.bool true) w) := by
  have hb := (Below.refl w.heap.size w).alloc (Nat.le_refl _) (.cells #[.int .u32 5, .int .u32 1, .int .u32 5] 23)
  have hU : U32s (w.alloc (.cells #[.int .u32 5, .int .u32 1, .int .u32 5] 23)) (.slice (some ⟨w.heap.size, 0, none⟩) 3 3) [5, 1, 5] := build_u32 w [5, 1, 5] (by decide) (by decide)
  have C1 := Go.Lib.hid (Srt.set_small _ [5, 1, 5] _ hU (by decide))
  rw [live_set] at C1
  have C2 := Go.Lib.hid (fun v (W : World) (h : U32s W v [1, 5]) => (has_any v [1, 5] 5 W h (by unfold rising; decide) (by decide)))
  have C3 := Go.Lib.hid (fun v (W : World) (h : U32s W v [1, 5]) => (text_any v [1, 5] W h (by decide) (.inl (by decide))))
  rw [live_text] at C3
  have HB := Go.Lib.hid hb
  clear hU hb
  go_enter Tryd.func19, Tryd.ntmps19
  go_wp2_with (go_at_call 10; refine (C1.out).mono ?_; rintro e w1 ⟨v1, rfl, h1, hb1⟩; obtain ⟨A, c, rfl, -, -, -⟩ := h1.open_; obtain ⟨b, off, rfl, hbw, -, hcell, -, hc1, hc2, -⟩ := h1.head; have k0 : (0 : Int) < 2 := (by decide); have H1 := Go.Lib.hid h1; clear h1)
  go_wp2_with (first | (go_at_call 13; refine (C2.out _ _ H1.out).mono ?_; rintro e w2 ⟨rfl, rfl⟩) | (go_at_call 38; refine (C3.out _ _ H1.out).mono ?_; rintro e w3 ⟨rfl, hb3⟩))
  go_ret
  exact ⟨rfl, HB.out.trans (hb1.mono (by simp) |>.trans (hb3.mono (Nat.le_trans (by simp) hb1.size)))⟩
end Go.Proofs.YtdgfnnjcpoklfaaDoor.Nums
