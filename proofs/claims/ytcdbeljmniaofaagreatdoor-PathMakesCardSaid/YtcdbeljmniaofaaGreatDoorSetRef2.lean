/- The reference's set with a number. -/
import Derived.Test.YtcdbeljmniaofaaGreatDoorSetRef
import Derived.BigQuiet
import Derived.Outline
import Derived.Deep.RegionHeld3
import Derived.Deep.DrawnRows
namespace Go.Proofs.YtcdbeljmniaofaaGreatDoor.Nums
open Go.RowKit Mem Rise
attribute [local go_sem ↓] Go.wp_at_zero Go.wp_at_succ

theorem refPut_same (v : Value) (l : List Nat) (n : Nat) (w : World) (hv : U32s w v l) (hn : n ∈ l) :
    Calls Tryz.prog 28 #[v, .int .u32 n] w fun e w' => e = .returned v ∧ w = w' := by
  have hH := refHas_any v l n w hv
  rw [decide_eq_true hn] at hH
  have C := Go.Lib.hid hH
  obtain ⟨A, c, rfl, -, -, -, -⟩ := hv.open_
  clear hH hn hv
  go_enter Tryz.func28, Tryz.ntmps28
  go_wp2_with (go_at_call 39; refine (C.out).mono ?_; rintro e w' ⟨rfl, rfl⟩)
  go_ret
  exact ⟨rfl, rfl⟩
theorem refPut_has (v : Value) (l : List Nat) (n : Nat) (w : World) (hv : U32s w v l) (hn : n ∈ l) :
    Calls Tryz.prog 28 #[v, .int .u32 n] w (Tells32 (put l n) w) := by
  have hH := refHas_any v l n w hv
  rw [decide_eq_true hn] at hH
  have C := Go.Lib.hid hH
  have HP := Go.Lib.hid (show put l n = l by unfold put; rw [if_pos hn])
  obtain ⟨A, c, rfl, hlc, hc, hl, hat⟩ := hv.open_
  have HN := Go.Lib.hid hn
  clear hH hn hat hl
  go_enter Tryz.func28, Tryz.ntmps28
  go_wp2_with (go_at_call 39; refine (C.out).mono ?_; rintro e w' ⟨rfl, rfl⟩)
  go_ret
  exact ⟨_, rfl, by rw [HP.out]; exact hv, Below.refl _ _⟩

theorem put_end {w w3 : World} {v3 : Value} {l : List Nat} {n k : Nat} (hown : w3.ownsRow w.heap.size 29 1 v3 (l.length + 1) ([] ++ (l.take k).map (fun n : Nat => Value.int .u32 n) ++ [.int .u32 n] ++ (l.drop k).map fun n : Nat => Value.int .u32 n))
    (hb : Below w.heap.size w w3) (hp : put l n = l.take k ++ n :: l.drop k) (hk : k ≤ l.length) : Gives32 29 (put l n) w (.returned v3) w3 := by
  refine ⟨v3, rfl, ?_, hb⟩
  have e : (put l n).length = l.length + 1 := by rw [hp]; simp; omega
  rw [e, hp]
  simpa using hown
theorem put_at {l : List Nat} {n k : Nat} (hn : n ∉ l) (h : ∀ y ∈ l.take k, y < n) (he : k = l.length ∨ ∃ x, l[k]? = some x ∧ ¬ x < n) : put l n = l.take k ++ n :: l.drop k := by
  have e : ∀ (m : List Nat) (j : Nat), (∀ y ∈ m.take j, y < n) → (j = m.length ∨ ∃ x, m[j]? = some x ∧ ¬ x < n) → m.takeWhile (fun x => decide (x < n)) = m.take j ∧ m.dropWhile (fun x => decide (x < n)) = m.drop j := by
    intro m
    induction m with
    | nil => intro j _ _; simp
    | cons a m ih =>
      intro j h1 h2
      cases j with
      | zero =>
        rcases h2 with h2 | ⟨x, hx, hlt⟩
        · simp at h2
        · simp at hx
          subst hx
          simp [List.takeWhile, List.dropWhile, hlt]
      | succ j =>
        have ha : a < n := h1 a (by simp)
        have := ih j (fun y hy => h1 y (by simp [hy])) (by simpa using h2)
        simp [List.takeWhile, List.dropWhile, ha, this]
  obtain ⟨e1, e2⟩ := e l k h he
  unfold put
  rw [if_neg hn, e1, e2]

set_option maxHeartbeats 2000000 in
set_option maxRecDepth 100000 in
theorem refPut_new (v : Value) (l : List Nat) (n : Nat) (w : World) (hv : U32s w v l) (hn : n ∉ l) (hlen : l.length ≤ 2000) :
    Calls Tryz.prog 28 #[v, .int .u32 n] w (Gives32 29 (put l n) w) := by
  have hH := refHas_any v l n w hv
  rw [decide_eq_false hn] at hH
  have C := Go.Lib.hid hH
  obtain ⟨i, E⟩ := elem32
  have HV := Go.Lib.hid hv
  obtain ⟨A, c, rfl, hlc, hc, hl, hat⟩ := hv.open_
  have HN := Go.Lib.hid hn
  clear hH hn hl
  go_enter Tryz.func28, Tryz.ntmps28
  go_wp2_with (go_at_call 39; refine (C.out).mono ?_; rintro e w' ⟨rfl, rfl⟩)
  go_loop [5] (fun i => ∃ k : Nat, k ≤ l.length ∧ i = .int .i64 k ∧ ∀ y ∈ l.take k, y < n) (fun i => l.length - (intOf i).toNat)
  case atStart => exact ⟨0, Nat.zero_le _, rfl, by simp⟩
  case round =>
    obtain ⟨k, hk, rfl, hno⟩ := hrel
    have HNo := Go.Lib.hid hno
    clear hno
    by_cases hlt : k < l.length
    · obtain ⟨b, off, x, rfl, hb, hx, hx32, hcell⟩ := hat k hlt
      have HX := Go.Lib.hid hx
      have HAT := Go.Lib.hid hat
      clear hx hat
      by_cases he : x < n
      · go_wp2
        go_round
        case rel => exact ⟨k + 1, by omega, by go_num, fun y hy => by
                      rw [List.take_add_one, HX.out] at hy
                      simp at hy
                      rcases hy with hy | hy
                      · exact HNo.out y hy
                      · omega⟩
        case measure => simp [intOf]; omega
      · have k0 : (0 : Int) ≤ (k : Int) := by omega
        have k1 : (k : Int) ≤ (c : Int) := by omega
        have k2 : (k : Int) ≤ (l.length : Int) := by omega
        have hR1 := (HV.out).1.prefix_ (k := k) (by omega)
        rw [map_take] at hR1
        have hR2 := (HV.out).1.cut_at (k := k) (by omega)
        rw [← List.map_drop] at hR2
        go_wp2
        go_region_held3 (fun w' => Below w.heap.size w w') (first | assumption | exact (Below.refl _ _).drew | exact Below.alloc (by assumption) (Below.size (by assumption)) _ | exact Below.drew (by assumption) | exact Below.refl _ _ | (trace_state; fail))
          (first
            | (refine step_append_row (by rfl) (.tmp 24) (.tmp 27) (by rfl) E w.heap.size _ 0 [] (by rfl) ?_ _ k ((l.take k).map fun n : Nat => Value.int .u32 n) (by rfl) ?_ (ones_u32 (l.take k)) ?_ ?_ ?_ k (Nat.zero_add k) ?_
               · exact own_blk (by simp) (by simp only [heap_dr, heap_al, Array.getElem?_push, Array.size_push]; simp)
               · exact hR1.keep (by assumption)
               · unfold maxLen; omega
               · omega
               · simp; try omega
               intro A1 c1 w1 hown1 hg1 hat1 hb0
               have hb1 : Below w.heap.size w w1 := Below.trans (by assumption) hb0
               clear hb0)
            | (refine step_append_row (by rfl) (.tmp 28) (.tmp 30) (by rfl) E w.heap.size (.slice A1 k c1) k _ (by rfl) hown1 _ 1 [.int .u32 n] (by rfl) ?_ (one_u32 _) ?_ ?_ hb1.size (k + 1) rfl ?_
               · refine one_blk (t := 29) ((hg1.block _ ?_ ?_).trans ?_)
                 · simp only [heap_dr, heap_al, Array.size_push]; omega
                 · simp [Act.eval, Value.ownBlock]; try omega
                 · simp only [heap_dr, heap_al, Array.getElem?_push, Array.size_push]; simp
               · unfold maxLen; omega
               · omega
               intro A2 c2 w2 hown2 hg2 hat2 hb0
               have hb2 : Below w.heap.size w w2 := Below.trans hb1 hb0
               clear hb0)
            | (refine step_append_row (by rfl) (.tmp 28) (.tmp 30) (by rfl) E w.heap.size (.slice A1 k c1) k _ (by rfl) (hown1.alloc _) _ 1 [.int .u32 n] (by rfl) ?_ (one_u32 _) ?_ ?_ ?_ (k + 1) rfl ?_
               · exact Row.one _ _ _
               · unfold maxLen; omega
               · omega
               · exact Nat.le_trans hb1.size (by simp)
               intro A2 c2 w2 hown2 hg2 hat2 hb0
               have hb2 : Below w.heap.size w w2 := Below.trans (by assumption) hb0
               clear hb0)
            | (refine step_append_row (by rfl) (.tmp 31) (.tmp 34) (by rfl) E w.heap.size (.slice A2 (k + 1) c2) (k + 1) _ (by rfl) hown2 _ (l.length - k) ((l.drop k).map fun n : Nat => Value.int .u32 n) (by rfl) ?_ (ones_u32 (l.drop k)) ?_ ?_ hb2.size (l.length + 1) (by omega) ?_
               · exact hR2.keep hb2
               · unfold maxLen; omega
               · omega
               intro A3 c3 w3 hown3 hg3 hat3 hb0
               have hb3 : Below w.heap.size w w3 := Below.trans hb2 hb0
               clear hb0))
        all_goals go_wp2
        all_goals go_ret
        all_goals exact put_end hown3 hb3 (put_at HN.out HNo.out (.inr ⟨x, HX.out, he⟩)) hk
    · have k0 : (0 : Int) ≤ (k : Int) := by omega
      have k1 : (k : Int) ≤ (c : Int) := by omega
      have k2 : (k : Int) ≤ (l.length : Int) := by omega
      have hR1 := (HV.out).1.prefix_ (k := k) (by omega)
      rw [map_take] at hR1
      have hR2 := (HV.out).1.cut1 (k := k) (by omega)
      rw [← List.map_drop] at hR2
      go_wp2
      go_region_held3 (fun w' => Below w.heap.size w w') (first | assumption | exact (Below.refl _ _).drew | exact Below.alloc (by assumption) (Below.size (by assumption)) _ | exact Below.drew (by assumption) | exact Below.refl _ _ | (trace_state; fail))
        (first
          | (refine step_append_row (by rfl) (.tmp 24) (.tmp 27) (by rfl) E w.heap.size _ 0 [] (by rfl) ?_ _ k ((l.take k).map fun n : Nat => Value.int .u32 n) (by rfl) ?_ (ones_u32 (l.take k)) ?_ ?_ ?_ k (Nat.zero_add k) ?_
             · exact own_blk (by simp) (by simp only [heap_dr, heap_al, Array.getElem?_push, Array.size_push]; simp)
             · exact hR1.keep (by assumption)
             · unfold maxLen; omega
             · omega
             · simp; try omega
             intro A1 c1 w1 hown1 hg1 hat1 hb0
             have hb1 : Below w.heap.size w w1 := Below.trans (by assumption) hb0
             clear hb0)
          | (refine step_append_row (by rfl) (.tmp 28) (.tmp 30) (by rfl) E w.heap.size (.slice A1 k c1) k _ (by rfl) hown1 _ 1 [.int .u32 n] (by rfl) ?_ (one_u32 _) ?_ ?_ hb1.size (k + 1) rfl ?_
             · refine one_blk (t := 29) ((hg1.block _ ?_ ?_).trans ?_)
               · simp only [heap_dr, heap_al, Array.size_push]; omega
               · simp [Act.eval, Value.ownBlock]; try omega
               · simp only [heap_dr, heap_al, Array.getElem?_push, Array.size_push]; simp
             · unfold maxLen; omega
             · omega
             intro A2 c2 w2 hown2 hg2 hat2 hb0
             have hb2 : Below w.heap.size w w2 := Below.trans hb1 hb0
             clear hb0)
          | (refine step_append_row (by rfl) (.tmp 28) (.tmp 30) (by rfl) E w.heap.size (.slice A1 k c1) k _ (by rfl) (hown1.alloc _) _ 1 [.int .u32 n] (by rfl) ?_ (one_u32 _) ?_ ?_ ?_ (k + 1) rfl ?_
             · exact Row.one _ _ _
             · unfold maxLen; omega
             · omega
             · exact Nat.le_trans hb1.size (by simp)
             intro A2 c2 w2 hown2 hg2 hat2 hb0
             have hb2 : Below w.heap.size w w2 := Below.trans (by assumption) hb0
             clear hb0)
          | (refine step_append_row (by rfl) (.tmp 31) (.tmp 34) (by rfl) E w.heap.size (.slice A2 (k + 1) c2) (k + 1) _ (by rfl) hown2 _ (l.length - k) ((l.drop k).map fun n : Nat => Value.int .u32 n) (by rfl) ?_ (ones_u32 (l.drop k)) ?_ ?_ hb2.size (l.length + 1) (by omega) ?_
             · exact hR2.keep hb2
             · unfold maxLen; omega
             · omega
             intro A3 c3 w3 hown3 hg3 hat3 hb0
             have hb3 : Below w.heap.size w w3 := Below.trans hb2 hb0
             clear hb0))
      all_goals go_wp2
      all_goals go_ret
      all_goals exact put_end hown3 hb3 (put_at HN.out HNo.out (.inl (by omega))) hk
theorem refPut_not (v : Value) (l : List Nat) (n : Nat) (w : World) (hv : U32s w v l) (hn : n ∉ l) (h32 : n < 4294967296) (hlen : l.length ≤ 2000) :
    Calls Tryz.prog 28 #[v, .int .u32 n] w (Tells32 (put l n) w) :=
  (refPut_new v l n w hv hn hlen).mono fun _ _ h => Tells32.of_gives h fun y hy => by
    rcases (mem_put l n y).1 hy with e | h
    · rw [e]; exact h32
    · exact hv.2 y h
end Go.Proofs.YtcdbeljmniaofaaGreatDoor.Nums
