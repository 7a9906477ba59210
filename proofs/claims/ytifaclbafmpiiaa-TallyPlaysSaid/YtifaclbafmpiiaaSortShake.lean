/- The sort of numbers of 32 bits: the patterns broken: the row turned about within the part. -/
import Derived.Test.YtifaclbafmpiiaaSortBreak
import Derived.Laws.Bits64b
namespace Go.Proofs.Ytifaclbafmpiiaa.Srt
open Go.RowKit Go.Sort

theorem below_row (w : World) (n g off : Nat) (d : Array Nat) : Below g w (putRow encN (Sort.ahead w n) g off d) := by
  refine ⟨rfl, rfl, rfl, by simp, fun k hk => ?_⟩
  simp only [putRow, mapBlock, heap_ahead, Array.getElem?_modify]
  rw [if_neg (by omega)]
theorem word_row {rb X : Nat} {w : World} (h : Word rb X w) {n blk off : Nat} {d : Array Nat} (hb : blk < rb) : Word rb X (putRow encN (Sort.ahead w n) blk off d) :=
  ⟨by rw [cell?_putRow_other _ _ _ _ _ _ (.inl (by show rb ≠ blk; omega))]; exact h.1, by rw [frozen?_putRow]; exact h.2⟩
theorem mask (Y M : Nat) (hY : Y < 18446744073709551616) (h1 : 1 ≤ M) (hM : M ≤ 10000) : ∃ o : Nat, o < M ∧ bits .and .u64 (Y : Int) ((M : Int) - 1) = (o : Int) :=
  ⟨Y &&& (M - 1), by have := Nat.and_le_right (n := Y) (m := M - 1); omega, by
    rw [show ((M : Int) - 1) = ((M - 1 : Nat) : Int) by omega, bits_and_u64_nat _ _ hY (by omega)]⟩
/-- A swap within the part. -/
theorem swap_step {blk off a b i j rb X : Nat} {d dk : Array Nat} {w wr w1 : World} (hH : Holds encN w1 blk off dk) (hP : PermIn a b d dk) (hb : b ≤ d.size) (hi : a ≤ i ∧ i < b) (hj : a ≤ j ∧ j < b) (h1 : Below blk w wr) (h2 : Below rb wr w1) (hr : blk < rb) (hw : Word rb X w1) {w2 : World}
    (h : w2 = ((w1.drewN 1).setCell ⟨blk, off + i, none⟩ (.int .u32 dk[j]!)).setCell ⟨blk, off + j, none⟩ (.int .u32 dk[i]!)) :
    Holds encN w2 blk off (swp dk i j) ∧ Below blk w w2 ∧ Word rb X w2 := by
  have hs := hP.1
  have e : w2 = putRow encN (Sort.ahead w1 1) blk off (swp dk i j) := by
    rw [h]
    have := swap_worldA encN w1 0 1 blk off dk i j (by omega) (by omega)
    rw [show putRow encN (Sort.ahead w1 0) blk off dk = w1 from putRow_self _ _ _ _ _ hH] at this
    exact this
  rw [e]
  exact ⟨holds_putRow _ _ _ _ _ _ (holds_ahead _ _ _ _ _ _ hH) (size_swp _ _ _), (h1.trans (h2.mono (by omega))).trans (below_row _ _ _ _ _), word_row hw hr⟩

set_option maxRecDepth 100000 in
set_option maxHeartbeats 8000000 in
theorem shake_any (blk off cap a b : Nat) (d : Array Nat) (w : World) (hH : Holds encN w blk off d) (hab : a + 12 < b) (hb : b ≤ d.size) (hl : b < a + 8000) (hsz : d.size < 1000000000) (hblk : blk < w.heap.size) :
    Calls Try.prog 33 #[.slice (some ⟨blk, off, none⟩) d.size cap, .int .i64 a, .int .i64 b] w (Turned blk off a b d w) := by
  have CP := Go.Lib.hid (fun (w : World) => show Calls Try.prog 43 #[.int .i64 ((b : Int) - (a : Int))] w (fun e w' => ∃ M : Nat, e = .returned (.int .u64 M) ∧ (1 ≤ M ∧ M ≤ 10000) ∧ M ≤ 2 * (b - a) ∧ w' = w) by
    rw [show ((b : Int) - (a : Int)) = ((b - a : Nat) : Int) by omega]
    exact (power_any (b - a) (by omega) (by omega) w).mono fun e w' ⟨M, h1, h2, h3, h4⟩ => ⟨M, h1, by omega, h3, h4⟩)
  have CN := Go.Lib.hid next_any
  obtain ⟨rb, hrb⟩ : ∃ rb, rb = w.heap.size := ⟨_, rfl⟩
  have HA := Go.Lib.hid (fun T => show Holds encN (w.alloc (Obj.cells #[.int .u64 ((b : Int) - (a : Int))] T)) blk off d ∧ RowKit.Below blk w (w.alloc (Obj.cells #[.int .u64 ((b : Int) - (a : Int))] T)) ∧ Word rb (b - a) (w.alloc (Obj.cells #[.int .u64 ((b : Int) - (a : Int))] T)) by
    rw [show ((b : Int) - (a : Int)) = ((b - a : Nat) : Int) by omega, hrb]
    have hb0 := (RowKit.Below.refl w.heap.size w).alloc (Nat.le_refl _) (Obj.cells #[.int .u64 ((b - a : Nat) : Int)] T)
    exact ⟨holds_below hH hb0 hblk, hb0.mono (by omega), word_new _ _ _⟩)
  have hwrap : IntKind.u64.wrap ((b : Int) - (a : Int)) = (b : Int) - (a : Int) := by rw [IntKind.wrap_u64]; omega
  clear hH
  go_enter Try.func33, Try.ntmps33
  go_wp2_with (go_at_call 43; refine (CP.out _).mono ?_)
  rintro e w1 ⟨M, rfl, hM, hM2, rfl⟩
  go_wp2
  rw [← hrb]
  rw [← hrb] at hblk
  clear hrb
  go_loopw [9] (fun vi wr => ∃ (i : Nat) (dk : Array Nat), vi = .int .i64 i ∧ Hid (a + (b - a) / 4 * 2 ≤ i + 1) ∧ i ≤ a + (b - a) / 4 * 2 + 2 ∧ Hid (PermIn a b d dk) ∧ Hid (Holds encN wr blk off dk) ∧ Hid (RowKit.Below blk w wr) ∧ Hid (∃ X, X < 18446744073709551616 ∧ Word rb X wr)) (fun vi _ => a + (b - a) / 4 * 2 + 3 - (intOf vi).toNat)
  case atStart => exact ⟨a + (b - a) / 4 * 2 - 1, d, by congr 1; omega, by unfold Hid; omega, by omega, perm_refl d a b, (HA.out _).1, (HA.out _).2.1, b - a, by omega, (HA.out _).2.2⟩
  case round =>
    obtain ⟨i, dk, rfl, hi1, hi2, hP, hH, hB, hX⟩ := hrel
    by_cases hle : i ≤ a + (b - a) / 4 * 2 + 1
    · have hle2 : (i : Int) ≤ (a : Int) + ((b : Int) - (a : Int)) / 4 * 2 + 1 := by omega
      have hia : a ≤ i := by have := hi1.out; omega
      have hib : i < b := by omega
      obtain ⟨X, hX1, hX2⟩ := hX.out
      have C := Go.Lib.hid (CN.out rb X hX1 wr hX2)
      clear hX2 hX
      go_wp2_with (go_at_call 44; refine (C.out).mono ?_)
      rintro e w1 ⟨Y, rfl, hY, hWY, hBY⟩
      have hWY := Go.Lib.hid hWY
      have hBY := Go.Lib.hid hBY
      obtain ⟨o, ho, eo⟩ := mask Y M hY hM.1 hM.2
      have hrb2 : blk < rb := hblk
      have H1 := Go.Lib.hid (holds_below hH.out hBY.out hrb2)
      have hsz1 := hP.out.1
      clear C
      by_cases hge : b - a ≤ o
      · obtain ⟨p, hp⟩ : ∃ p, p = o - (b - a) := ⟨_, rfl⟩
        have hpb : a + p < b := by omega
        have hpd : a + p < d.size := by omega
        have hid : i < d.size := by omega
        have ST := Go.Lib.hid (fun w2 h => swap_step (w2 := w2) (i := i) (j := a + p) H1.out hP.out hb ⟨hia, hib⟩ ⟨by omega, hpb⟩ hB.out hBY.out hrb2 hWY.out h)
        obtain ⟨G, hG, hcw, hfw⟩ := row_facts (m := 0) (dk := dk) H1.out rfl (show w1 = putRow encN (Sort.ahead w1 0) blk off dk from (putRow_self _ _ _ _ _ H1.out).symm)
        have HG := Go.Lib.hid hG
        rw [hsz1] at hcw hfw
        clear hG
        have PE := Go.Lib.hid (perm_swap (i := i) (j := a + p) hP.out ⟨hia, hib⟩ ⟨by omega, hpb⟩ hb)
        have hge2 : (b : Int) - (a : Int) ≤ (o : Int) := by omega
        go_wp2
        rw [show ((o : Int) - ((b : Int) - (a : Int))) = (p : Int) by omega]
        clear hp
        by_cases hip : i = a + p
        · subst hip
          go_region
          all_goals go_wp2
          go_roundw
          case rel => exact ⟨a + p + 1, swp dk (a + p) (a + p), by go_num, by have := hi1.out; unfold Hid; omega, by omega, PE.out, (ST.out _ (by rw [← HG.out]; rfl)).1, (ST.out _ (by rw [← HG.out]; rfl)).2.1, Y, hY, (ST.out _ (by rw [← HG.out]; rfl)).2.2⟩
          case measure => simp [intOf] <;> omega
        · go_region
          all_goals go_wp2
          go_roundw
          case rel => exact ⟨i + 1, swp dk i (a + p), by go_num, by have := hi1.out; unfold Hid; omega, by omega, PE.out, (ST.out _ (by rw [← HG.out, ← HG.out]; rfl)).1, (ST.out _ (by rw [← HG.out, ← HG.out]; rfl)).2.1, Y, hY, (ST.out _ (by rw [← HG.out, ← HG.out]; rfl)).2.2⟩
          case measure => simp [intOf] <;> omega
      · obtain ⟨p, hp⟩ : ∃ p, p = o := ⟨_, rfl⟩
        have hpb : a + p < b := by omega
        have hpd : a + p < d.size := by omega
        have hid : i < d.size := by omega
        have ST := Go.Lib.hid (fun w2 h => swap_step (w2 := w2) (i := i) (j := a + p) H1.out hP.out hb ⟨hia, hib⟩ ⟨by omega, hpb⟩ hB.out hBY.out hrb2 hWY.out h)
        obtain ⟨G, hG, hcw, hfw⟩ := row_facts (m := 0) (dk := dk) H1.out rfl (show w1 = putRow encN (Sort.ahead w1 0) blk off dk from (putRow_self _ _ _ _ _ H1.out).symm)
        have HG := Go.Lib.hid hG
        rw [hsz1] at hcw hfw
        clear hG
        have PE := Go.Lib.hid (perm_swap (i := i) (j := a + p) hP.out ⟨hia, hib⟩ ⟨by omega, hpb⟩ hb)
        have hge2 : ¬ (b : Int) - (a : Int) ≤ (o : Int) := by omega
        go_wp2
        rw [show (o : Int) = (p : Int) by omega]
        clear hp
        by_cases hip : i = a + p
        · subst hip
          go_region
          all_goals go_wp2
          go_roundw
          case rel => exact ⟨a + p + 1, swp dk (a + p) (a + p), by go_num, by have := hi1.out; unfold Hid; omega, by omega, PE.out, (ST.out _ (by rw [← HG.out]; rfl)).1, (ST.out _ (by rw [← HG.out]; rfl)).2.1, Y, hY, (ST.out _ (by rw [← HG.out]; rfl)).2.2⟩
          case measure => simp [intOf] <;> omega
        · go_region
          all_goals go_wp2
          go_roundw
          case rel => exact ⟨i + 1, swp dk i (a + p), by go_num, by have := hi1.out; unfold Hid; omega, by omega, PE.out, (ST.out _ (by rw [← HG.out, ← HG.out]; rfl)).1, (ST.out _ (by rw [← HG.out, ← HG.out]; rfl)).2.1, Y, hY, (ST.out _ (by rw [← HG.out, ← HG.out]; rfl)).2.2⟩
          case measure => simp [intOf] <;> omega
    · have hle2 : ¬ (i : Int) ≤ (a : Int) + ((b : Int) - (a : Int)) / 4 * 2 + 1 := by omega
      go_wp2
      go_end0
      exact ⟨rfl, dk, hP, hH.out, hB.out⟩
end Go.Proofs.Ytifaclbafmpiiaa.Srt
