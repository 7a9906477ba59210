/- The law's Few; the reference's Size, Good and Same. -/
import Derived.Test.YtaemhgmekggliaaPfxRows
import Derived.Test.YtaemhgmekggliaaPfxWalkC
import Derived.Test.YtaemhgmekggliaaOctBig
namespace Go.Proofs.Ytaemhgmekggliaa.PR
open Go.RowKit Go.Sort Mem Pfx

theorem elemP : ∃ i, IsElem Try.prog 22 31 2 16 i (.agg #[.int .u32 0, .int .i64 0]) := IsElem.mk_ Try.underlying22 (by kernel_rfl) rfl (by decide)
/-- What a copy gives: prefixes in memory of its own. -/
def GivesP (l : List Pf) (w : World) (e : Ending) (w' : World) : Prop :=
  ∃ A c, e = .returned (.slice A l.length c) ∧ w'.ownsRow w.heap.size 31 2 (.slice A l.length c) l.length (pcells l) ∧ Below w.heap.size w w'
theorem own_blk2 {W : World} {base B : Nat} {t : TypeId} (hB : base ≤ B) (h : W.heap[B]? = some (.cells #[] t (0, 0))) : W.ownsRow base t 2 (.slice (some ⟨B, 0, none⟩) 0 0) 0 [] :=
  ⟨rfl, .inr ⟨B, 0, #[], rfl, hB, h, Nat.le_refl _, Nat.zero_le _, rfl, rfl⟩⟩
set_option maxHeartbeats 1000000 in
theorem few_any (v : Value) (l : List Pf) (m : Nat) (w : World) (hv : Pfxs w v l) (hm : m ≤ 1000000) : Calls Try.prog 6 #[v, .int .i64 m] w (GivesP (l.take m) w) := by
  obtain ⟨i0, E0⟩ := elemP
  obtain ⟨A, c, rfl, hlc, hc⟩ := hv.form
  have h0 : (w.alloc (.cells #[] 31)).ownsRow w.heap.size 31 2 (.slice (some ⟨w.heap.size, 0, none⟩) 0 0) 0 (pcells []) := own_blk2 (Nat.le_refl _) (heap_alloc_new _ _)
  have H0 := Go.Lib.hid h0
  have hb : Below w.heap.size w (w.alloc (.cells #[] 31)) := (Below.refl _ w).alloc (Nat.le_refl _) _
  have HBB := Go.Lib.hid hb
  by_cases hlt : m < l.length
  · have z0 : (0 : Int) ≤ (m : Int) := by omega
    have z1 : (m : Int) < (l.length : Int) := by omega
    have z2 : (m : Int) ≤ (c : Int) := by omega
    have e1 : (l.take m).length = m := by rw [List.length_take]; omega
    have hp := ((hv.keep hb).prefix_ (k := m) (d := c) (by omega) (by omega) (by unfold maxLen; omega)).1
    rw [e1] at hp
    have HP := Go.Lib.hid hp
    have HE := Go.Lib.hid e1
    clear hv h0 hb hp e1
    go_enter Try.func6, Try.ntmps6
    go_wp2_with (at_builtin; refine wpList_append_row rfl (.tmp 12) (.tmp 13) rfl E0 w.heap.size _ 0 _ rfl H0.out _ m (pcells (l.take m)) rfl HP.out (ones_p _) (by unfold maxLen; omega) (by omega) (by simp) (m) (Nat.zero_add _) ?_; intro A1 c1 w1 hown1 hg1 hat1 hb1; have HO := Go.Lib.hid hown1; have HB1 := Go.Lib.hid hb1; clear hown1 hg1 hat1 hb1)
    go_ret
    refine ⟨_, _, by rw [HE.out]; rfl, by rw [HE.out]; exact HO.out, HBB.out.trans HB1.out⟩
  · have z1 : (l.length : Int) ≤ (m : Int) := by omega
    have HE := Go.Lib.hid (List.take_of_length_le (show l.length ≤ m by omega))
    have HP := Go.Lib.hid (hv.keep hb).1
    clear hv h0 hb
    go_enter Try.func6, Try.ntmps6
    go_wp2_with (at_builtin; refine wpList_append_row rfl (.tmp 12) (.tmp 13) rfl E0 w.heap.size _ 0 _ rfl H0.out _ l.length (pcells l) rfl HP.out (ones_p _) (by unfold maxLen; omega) (by omega) (by simp) (l.length) (Nat.zero_add _) ?_; intro A1 c1 w1 hown1 hg1 hat1 hb1; have HO := Go.Lib.hid hown1; have HB1 := Go.Lib.hid hb1; clear hown1 hg1 hat1 hb1)
    go_ret
    refine ⟨_, _, by rw [HE.out]; rfl, by rw [HE.out]; exact HO.out, HBB.out.trans HB1.out⟩

def good (p : Pf) : Bool := goodB p.a p.n
/-- How many bytes a prefix has. -/
def sizeN (p : Pf) : Nat := if good p then 1 + (p.n.toNat + 7) / 8 else 0
theorem sizeN_le (p : Pf) : sizeN p ≤ 5 := by
  unfold sizeN
  split
  · rename_i h
    have := goodB_len h
    omega
  · omega
theorem refSize_any (p : Pf) (w : World) (ha : p.a < 4294967296) : Calls Try.prog 9 #[pV p] w (Tells (.int .i64 (sizeN p)) w) := by
  obtain ⟨a, n⟩ := p
  unfold pV
  dsimp only at ha ⊢
  have hb := below_new w (.cells #[.int .u32 (a : Int), .int .i64 n] 31)
  obtain ⟨c0, c1⟩ := cells_two w (.int .u32 (a : Int)) (.int .i64 n) 31
  have CG := Go.Lib.hid (fun (W : World) => refGood_any a n ha W)
  have hlt : w.heap.size < (w.alloc (.cells #[.int .u32 (a : Int), .int .i64 n] 31)).heap.size := by simp
  have HS := Go.Lib.hid (show sizeN ⟨a, n⟩ = if goodB a n then 1 + (n.toNat + 7) / 8 else 0 from rfl)
  by_cases hg : goodB a n = true
  · obtain ⟨h0, h1⟩ := goodB_len hg
    obtain ⟨k, rfl⟩ := Int.eq_ofNat_of_zero_le h0
    have hk : k ≤ 32 := by omega
    have e : sizeN ⟨a, (k : Int)⟩ = 1 + (k + 7) / 8 := by rw [HS.out, if_pos hg]; simp
    rw [e]
    rw [hg] at CG
    have HB := Go.Lib.hid hb
    clear hg h0 h1 e HS hb
    go_enter Try.func9, Try.ntmps9
    go_wp2_with (go_at_call 25; refine (CG.out _).mono ?_; rintro e w1 ⟨rfl, hb1⟩; have c2 := (hb1.cell (p := ⟨w.heap.size, 1, none⟩) hlt).trans c1; have HB1 := Go.Lib.hid (HB.out.trans (hb1.mono HB.out.size)); clear hb1 c0 c1 hlt)
    go_loopw [3, 4] (fun v3 v4 wx => ∃ j : Nat, 8 * j ≤ k + 7 ∧ v3 = .int .i64 ((1 + j : Nat) : Int) ∧ v4 = .int .i64 ((8 * j : Nat) : Int) ∧ wx = w1) (fun _ v4 _ => 40 - (intOf v4).toNat)
    case atStart => exact ⟨0, by omega, rfl, rfl, rfl⟩
    case round =>
      obtain ⟨j, hj, rfl, rfl, rfl⟩ := hrel
      obtain ⟨i, hi⟩ : ∃ i, i = 8 * j := ⟨_, rfl⟩
      obtain ⟨m, hm⟩ : ∃ m, m = 1 + j := ⟨_, rfl⟩
      rw [← hi, ← hm]
      by_cases hlt : i < k
      · have z1 : (i : Int) < (k : Int) := by omega
        have z2 : (m : Int) ≤ 40 := by omega
        have HI := Go.Lib.hid (And.intro hi hm)
        clear hi hm
        go_wp2
        go_roundw
        case rel => exact ⟨j + 1, by have := HI.out; omega, by rw [show 1 + (j + 1) = m + 1 by have := HI.out; omega]; go_num, by rw [show 8 * (j + 1) = i + 8 by have := HI.out; omega]; go_num, trivial⟩
        case measure => simp [intOf]; omega
      · have z1 : decide ((i : Int) < (k : Int)) = false := decide_eq_false (by omega)
        have HM := Go.Lib.hid (show m = 1 + (k + 7) / 8 by omega)
        clear hi hm
        go_wp2
        go_ret
        exact ⟨by rw [← HM.out]; rfl, HB1.out⟩
  · have e : sizeN ⟨a, n⟩ = 0 := by rw [HS.out, if_neg hg]
    rw [e]
    have hf : goodB a n = false := by simpa using hg
    rw [hf] at CG
    have HB := Go.Lib.hid hb
    clear hg hf e HS hb
    go_enter Try.func9, Try.ntmps9
    go_wp2_with (go_at_call 25; refine (CG.out _).mono ?_; rintro e w1 ⟨rfl, hb1⟩; have HB1 := Go.Lib.hid (HB.out.trans (hb1.mono HB.out.size)); clear hb1)
    go_ret
    exact ⟨rfl, HB1.out⟩
end Go.Proofs.Ytaemhgmekggliaa.PR
