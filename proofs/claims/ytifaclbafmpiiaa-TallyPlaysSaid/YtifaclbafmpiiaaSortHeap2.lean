/- The sort of numbers of 32 bits: the heap's sort. -/
import Derived.Test.YtifaclbafmpiiaaSortHeap
import Derived.Sort.LotB
namespace Go.Proofs.Ytifaclbafmpiiaa.Srt
open Go.RowKit Go.Sort

theorem size_sift (hi F r : Nat) (d : Array Nat) : (siftDown ltN hi F r d).size = d.size := by
  fun_induction siftDown ltN hi F r d <;> simp_all [size_swp]
theorem half_way {a b : Nat} (h : a ≤ b) : ((b : Int) - (a : Int) - 1).tdiv 2 = (((b - a - 1) / 2 + 1 : Nat) : Int) - 1 := by
  rcases Nat.lt_or_ge a b with h1 | h1
  · rw [Int.tdiv_eq_ediv_of_nonneg (by omega)]; omega
  · rw [show ((b : Int) - (a : Int) - 1) = -1 by omega, show (b - a - 1) / 2 + 1 = 1 by omega]; rfl
theorem build_end {hi F : Nat} {d : Array Nat} : heapBuild ltN hi F 0 d = d := rfl
theorem build_go {hi F k : Nat} {d : Array Nat} (h : 0 < k) : heapBuild ltN hi F k d = heapBuild ltN hi F (k - 1) (siftDown ltN hi F (k - 1) d) := by
  cases k with
  | zero => omega
  | succ k => rfl
theorem pop_end {F : Nat} {d : Array Nat} : heapPop ltN F 0 d = d := rfl
theorem pop_go {F k : Nat} {d : Array Nat} (h : 0 < k) : heapPop ltN F k d = heapPop ltN F (k - 1) (siftDown ltN (k - 1) F 0 (swp d F (F + (k - 1)))) := by
  cases k with
  | zero => omega
  | succ k => rfl

set_option maxRecDepth 100000 in
set_option maxHeartbeats 8000000 in
theorem heap_any (blk off cap a b : Nat) (d : Array Nat) (w : World) (hH : Holds encN w blk off d) (hab : a ≤ b) (hb : b ≤ d.size) (hsz : d.size < 1000000000) :
    Calls Try.prog 32 #[.slice (some ⟨blk, off, none⟩) d.size cap, .int .i64 a, .int .i64 b] w (Puts blk off (Sort.heapSort ltN d a b) w) := by
  have HH := Go.Lib.hid hH
  have CS := Go.Lib.hid (fun (lo hi : Nat) (dk : Array Nat) (wr : World) (h1 : Holds encN wr blk off dk) (hs : dk.size = d.size) (h2 : a + hi ≤ d.size) (h3 : lo ≤ d.size) => hs ▸ sift_any blk off cap lo hi a dk wr h1 (by omega) (by omega) (by omega))
  have HS := Go.Lib.hid (half_way hab)
  clear hH
  go_enter Try.func32, Try.ntmps32
  go_wp2
  go_loopw [9] (fun vi wr => ∃ (k m : Nat) (dk : Array Nat), vi = .int .i64 ((k : Int) - 1) ∧ k ≤ d.size + 1 ∧ Hid (k - 1 ≤ d.size) ∧ dk.size = d.size ∧ Hid (wr = putRow encN (Sort.ahead w m) blk off dk) ∧ Hid (heapBuild ltN (b - a) a k dk = heapBuild ltN (b - a) a ((b - a - 1) / 2 + 1) d)) (fun vi _ => (intOf vi + 1).toNat)
  case atStart => exact ⟨(b - a - 1) / 2 + 1, 0, d, by rw [← HS.out], by omega, by unfold Hid; omega, rfl, (putRow_self _ _ _ _ _ HH.out).symm, rfl⟩
  case round =>
    obtain ⟨k, m, dk, rfl, hk, hk1, hs, hw, hR⟩ := hrel
    have HK := Go.Lib.hid (show Holds encN wr blk off dk by rw [hw.out]; exact holds_putRow _ _ _ _ _ _ (holds_ahead _ _ _ _ _ _ HH.out) hs)
    by_cases h0 : 0 < k
    · obtain ⟨i, rfl⟩ : ∃ i, k = i + 1 := ⟨k - 1, by omega⟩
      rw [show (((i + 1 : Nat) : Int) - 1) = (i : Int) by omega]
      have C1 := Go.Lib.hid (CS.out i (b - a) dk wr HK.out hs (by omega) (by have := hk1.out; omega))
      rw [show (((b - a : Nat) : Int)) = (b : Int) - (a : Int) by omega] at C1
      have GO := Go.Lib.hid (build_go (hi := b - a) (F := a) (d := dk) h0)
      go_wp2_with (go_at_call 42; refine (C1.out).mono ?_; rintro e w1 ⟨rfl, q, hq⟩; have H1 := Go.Lib.hid hq; clear hq)
      go_roundw
      case rel => exact ⟨i, m + q, siftDown ltN (b - a) a i dk, rfl, by omega, by unfold Hid; omega, by rw [size_sift]; exact hs, by
        unfold Hid
        rw [H1.out, hw.out]
        exact putRow_ahead_putRow _ _ _ _ _ _ _ _ (size_sift _ _ _ _), by unfold Hid; rw [← hR.out]; exact GO.out.symm⟩
      case measure => simp [intOf] <;> omega
    · have hk0 : k = 0 := by omega
      subst hk0
      have hBk := Go.Lib.hid (show dk = heapBuild ltN (b - a) a ((b - a - 1) / 2 + 1) d from hR.out)
      clear h0 hk hk1
      rw [show (((0 : Nat) : Int) - 1) = -1 from rfl]
      go_wp2
      go_loopw [10] (fun vi wr => ∃ (k m : Nat) (dq : Array Nat), vi = .int .i64 ((k : Int) - 1) ∧ k ≤ b - a ∧ dq.size = d.size ∧ Hid (wr = putRow encN (Sort.ahead w m) blk off dq) ∧ Hid (heapPop ltN a k dq = heapPop ltN a (b - a) dk)) (fun vi _ => (intOf vi + 1).toNat)
      case atStart => exact ⟨b - a, m, dk, by congr 1; omega, by omega, hs, hw, rfl⟩
      case round =>
        clear HK hw hs
        obtain ⟨k, m2, dq, rfl, hk, hs, hw, hP⟩ := hrel
        by_cases h0 : 0 < k
        · obtain ⟨G, hG, hcw, hfw⟩ := row_facts HH.out hs hw.out
          have HG := Go.Lib.hid hG
          clear hG
          obtain ⟨i, rfl⟩ : ∃ i, k = i + 1 := ⟨k - 1, by omega⟩
          rw [show (((i + 1 : Nat) : Int) - 1) = (i : Int) by omega]
          have j1 : a < d.size := by omega
          have j2 : a + i < d.size := by omega
          have GO := Go.Lib.hid (pop_go (F := a) (d := dq) h0)
          have HQ := Go.Lib.hid (fun (wx : World) (x : Nat) (hx : wx = putRow encN (Sort.ahead w x) blk off (swp dq a (a + i))) => show Holds encN wx blk off (swp dq a (a + i)) by rw [hx]; exact holds_putRow _ _ _ _ _ _ (holds_ahead _ _ _ _ _ _ HH.out) (by rw [size_swp]; exact hs))
          have C1 := Go.Lib.hid (fun (wx : World) (x : Nat) (hx : wx = putRow encN (Sort.ahead w x) blk off (swp dq a (a + i))) => CS.out 0 i (swp dq a (a + i)) wx (HQ.out wx x hx) (by rw [size_swp]; exact hs) (by omega) (by omega))
          have HX := Go.Lib.hid (fun (q : Nat) => show ((wr.drewN q).setCell ⟨blk, off + a, none⟩ (.int .u32 (G (a + i)))).setCell ⟨blk, off + (a + i), none⟩ (.int .u32 (G a)) = putRow encN (Sort.ahead w (m2 + q)) blk off (swp dq a (a + i)) by
            rw [hw.out, HG.out, HG.out]
            exact swap_worldA _ w m2 q blk off dq a (a + i) (by omega) (by omega))
          by_cases hi0 : i = 0
          · subst hi0
            go_wp2
            go_region
            all_goals go_wp2_with (go_at_call 42; refine (C1.out _ _ (HX.out 1)).mono ?_; rintro e w1 ⟨rfl, q, hq⟩; have H1 := Go.Lib.hid hq; clear hq)
            go_roundw
            case rel => exact ⟨0, m2 + 1 + q, siftDown ltN 0 a 0 (swp dq a (a + 0)), rfl, by omega, by rw [size_sift, size_swp]; exact hs, by
              unfold Hid
              rw [H1.out, HX.out]
              exact putRow_ahead_putRow _ _ _ _ _ _ _ _ (size_sift _ _ _ _), by unfold Hid; rw [← hP.out]; exact GO.out.symm⟩
            case measure => simp [intOf] <;> omega
          · have hne : a ≠ a + i := by omega
            go_wp2
            go_region
            all_goals go_wp2_with (go_at_call 42; refine (C1.out _ _ (HX.out 1)).mono ?_; rintro e w1 ⟨rfl, q, hq⟩; have H1 := Go.Lib.hid hq; clear hq)
            go_roundw
            case rel => exact ⟨i, m2 + 1 + q, siftDown ltN i a 0 (swp dq a (a + i)), rfl, by omega, by rw [size_sift, size_swp]; exact hs, by
              unfold Hid
              rw [H1.out, HX.out]
              exact putRow_ahead_putRow _ _ _ _ _ _ _ _ (size_sift _ _ _ _), by unfold Hid; rw [← hP.out]; exact GO.out.symm⟩
            case measure => simp [intOf] <;> omega
        · have hk0 : k = 0 := by omega
          subst hk0
          have DN := Go.Lib.hid (show dq = Sort.heapSort ltN d a b by unfold Sort.heapSort; rw [← hBk.out, ← hP.out]; rfl)
          clear h0
          go_wp2
          go_end0
          exact ⟨rfl, m2, by rw [← DN.out]; exact hw.out⟩
end Go.Proofs.Ytifaclbafmpiiaa.Srt
