/- The sort of numbers of 32 bits: the row's words, and the insertion sort's walk. -/
import Derived.Test.YtifaclbafmpiiaaSearchLess
import Derived.Sort.WalkA
import Derived.BigGuard
import Derived.BigCall
import Derived.CellFam
import Derived.Deep.Draws
import Derived.Deep.QuietTactic
import Derived.BigQuiet
namespace Go.Proofs.Ytifaclbafmpiiaa.Srt
open Go.RowKit Go.Sort

/-- A number's cell; which number comes first. -/
abbrev encN (n : Nat) : Value := .int .u32 n
def ltN (x y : Nat) : Bool := decide (x < y)
theorem swoN : SWO ltN := ⟨fun x => by simp [ltN], fun x y z => by simp only [ltN, decide_eq_true_eq]; omega, fun x y z => by simp only [ltN, decide_eq_false_iff_not]; omega⟩
/-- What a call of the sort's leaves: the row holds d', and nothing else has turned but the count of draws. -/
def Puts (blk off : Nat) (d' : Array Nat) (w : World) (e : Ending) (w' : World) : Prop := e = .returned (.tuple #[]) ∧ ∃ n, w' = putRow encN (Sort.ahead w n) blk off d'

/-- .. and blocks may have been laid behind. -/
def PutsG (blk off : Nat) (d' : Array Nat) (w : World) (e : Ending) (w' : World) : Prop := e = .returned (.tuple #[]) ∧ ∃ n os, w' = grow (putRow encN (Sort.ahead w n) blk off d') os
theorem Puts.grown {blk off : Nat} {d' : Array Nat} {w w' : World} {e : Ending} (h : Puts blk off d' w e w') : PutsG blk off d' w e w' := by
  obtain ⟨he, n, hw⟩ := h
  exact ⟨he, n, #[], by rw [hw, grow_empty]⟩

/-- The row's cells, under a letter. -/
theorem row_facts {w wr : World} {blk off m : Nat} {d dk : Array Nat} (hH : Holds encN w blk off d) (hs : dk.size = d.size) (hw : wr = putRow encN (Sort.ahead w m) blk off dk) :
    ∃ G : Nat → Nat, (∀ t, G t = dk[t]!) ∧ (∀ t, t < d.size → wr.cell? ⟨blk, off + t, none⟩ = some (.int .u32 (G t))) ∧ (∀ t, t < d.size → wr.frozen? ⟨blk, off + t, none⟩ = false) :=
  ⟨fun t => dk[t]!, fun _ => rfl, fun t ht => by rw [hw]; exact cell?_putRow _ _ _ _ d dk (holds_ahead _ _ _ _ _ _ hH) hs t (by omega), fun t ht => by rw [hw, frozen?_putRow]; exact ((holds_ahead _ _ m _ _ _ hH) t ht).2⟩
theorem less_q (x y : Nat) (w : World) : Calls Try.prog 37 #[.int .u32 x, .int .u32 y] w fun e w' => e = .returned (.bool (ltN x y)) ∧ w' = w :=
  (Nums.less_any x y w).mono fun _ _ ⟨he, hw⟩ => ⟨by rw [he]; unfold ltN; simp, hw.symm⟩

/-- A quiet call behind a quiet region. -/
theorem quiet_addN {P : Program} {f : FuncId} {args : Array Value} {w : World} {a n : Nat} {v : Value}
    (h : Calls P f args (w.drewN (a + n)) fun e w' => e = .returned v ∧ w' = w.drewN (a + n)) :
    Calls P f args (w.drewN (a + n)) fun e w'' => e = .returned v ∧ ∃ m, w'' = w.drewN (a + m) :=
  h.mono fun _ _ ⟨he, hm⟩ => ⟨he, n, hm⟩

set_option maxHeartbeats 4000000 in
theorem insertion_any (blk off cap a b : Nat) (d : Array Nat) (w : World) (hH : Holds encN w blk off d) (hab : a ≤ b) (hb : b ≤ d.size) (hsz : d.size < 4611686018427387904) :
    Calls Try.prog 31 #[.slice (some ⟨blk, off, none⟩) d.size cap, .int .i64 a, .int .i64 b] w (Puts blk off (Sort.insertionSort ltN d a b) w) := by
  have HH := Go.Lib.hid hH
  have CL := Go.Lib.hid less_q
  clear hH
  go_enter Try.func31, Try.ntmps31
  go_wp2
  go_loopw [6] (fun vi wr => ∃ (i n : Nat) (dk : Array Nat), vi = .int .i64 i ∧ a < i ∧ i ≤ b + 1 ∧ dk.size = d.size ∧ Hid (wr = putRow encN (Sort.ahead w n) blk off dk) ∧
      Hid (insOuter ltN a b i dk = insOuter ltN a b (a + 1) d)) (fun vi _ => b + 1 - (intOf vi).toNat)
  case atStart => exact ⟨a + 1, 0, d, by go_num, by omega, by omega, rfl, (putRow_self _ _ _ _ _ HH.out).symm, rfl⟩
  case round =>
    obtain ⟨i, n, dk, rfl, hai, hib, hsk, hwr, hO⟩ := hrel
    by_cases hlt : i < b
    · go_wp2
      go_loopw [7] (fun vj wr2 => ∃ (j m : Nat) (dj : Array Nat), vj = .int .i64 j ∧ a ≤ j ∧ j ≤ i ∧ dj.size = d.size ∧ Hid (wr2 = putRow encN (Sort.ahead w m) blk off dj) ∧
          Hid (insInner ltN a j dj = insInner ltN a i dk)) (fun vj _ => (intOf vj).toNat)
      case atStart => exact ⟨i, n, dk, rfl, by omega, Nat.le_refl _, hsk, hwr, rfl⟩
      case round =>
        obtain ⟨j, m, dj, rfl, haj, hji, hsj, hw2, hI⟩ := hrel
        obtain ⟨G, hG, hcw, hfw⟩ := row_facts HH.out hsj hw2.out
        have HG := Go.Lib.hid hG
        clear hG
        have OUT := Go.Lib.hid (fun (hs : j ≤ a ∨ ltN (G j) (G (j - 1)) = false) (q : Nat) => show insOuter ltN a b (i + 1) dj = insOuter ltN a b (a + 1) d ∧ wr.drewN q = putRow encN (Sort.ahead w (m + q)) blk off dj from
          ⟨by rw [← hO.out, insOuter_go _ _ _ _ _ hlt, ← hI.out, insInner_stop _ _ _ _ (by rw [HG.out, HG.out] at hs; exact hs)], by rw [hw2.out]; exact putRow_drewN _ _ _ _ _ _ _⟩)
        by_cases hja : a < j
        · have hj1 : j - 1 < d.size := by omega
          have hj2 : j < d.size := by omega
          cases hl : ltN (G j) (G (j - 1))
          · have OUT2 := Go.Lib.hid (OUT.out (.inr hl))
            have C := Go.Lib.hid (fun w => hl ▸ CL.out (G j) (G (j - 1)) w)
            clear hl
            go_wp2
            go_quiet (first | (go_at_call 37; refine Calls.quiet_of_same (C.out _)))
            go_wp2
            go_roundw
            case rel => exact ⟨i + 1, _, dj, by go_num, by omega, by omega, hsj, (OUT2.out nq).2, (OUT2.out nq).1⟩
            case measure => simp [intOf]; omega
          · have C := Go.Lib.hid (fun w => hl ▸ CL.out (G j) (G (j - 1)) w)
            have GO := Go.Lib.hid (show insInner ltN a (j - 1) (swp dj j (j - 1)) = insInner ltN a i dk by rw [← hI.out, insInner_go ltN a j dj hja (by rw [← HG.out, ← HG.out]; exact hl)])
            clear hl
            go_wp2
            go_quiet (first | (go_at_call 37; refine Calls.quiet_of_same (C.out _)))
            go_wp2
            go_region
            all_goals go_wp2
            go_roundw
            case rel => exact ⟨j - 1, m + (nq + 1), swp dj j (j - 1), by congr 1; omega, by omega, by omega, by rw [size_swp]; exact hsj, by
              unfold Hid
              rw [hw2.out, HG.out, HG.out]
              exact swap_worldA _ w m (nq + 1) blk off dj j (j - 1) (by omega) (by omega), GO.out⟩
            case measure => simp [intOf]; omega
        · have OUT2 := Go.Lib.hid (OUT.out (.inl (by omega)))
          have hd : decide (a < j) = false := by simp; omega
          go_wp2
          go_quiet (first | (go_at_call 37; refine Calls.quiet_of_same (CL.out _ _ _)))
          go_wp2
          go_roundw
          case rel => exact ⟨i + 1, _, dj, by go_num, by omega, by omega, hsj, (OUT2.out nq).2, (OUT2.out nq).1⟩
          case measure => simp [intOf]; omega
    · go_wp2
      go_end0
      exact ⟨rfl, n, by unfold Sort.insertionSort; rw [← hO.out, insOuter_stop _ _ _ _ _ hlt]; exact hwr.out⟩
end Go.Proofs.Ytifaclbafmpiiaa.Srt
