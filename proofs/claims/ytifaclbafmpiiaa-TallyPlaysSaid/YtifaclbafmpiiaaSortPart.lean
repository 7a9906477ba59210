/- The sort of numbers of 32 bits: the try whether the part is sorted already. -/
import Derived.Test.YtifaclbafmpiiaaSortPivot
namespace Go.Proofs.Ytifaclbafmpiiaa.Srt
open Go.RowKit Go.Sort

def Tried (blk off a b : Nat) (d : Array Nat) (w : World) (e : Ending) (w' : World) : Prop :=
  ∃ r : Bool, e = .returned (.bool r) ∧ Hid (r = true → SortedIn ltN a b d) ∧ ∃ n, w' = putRow encN (Sort.ahead w n) blk off d
theorem sorted_of_steps {d : Array Nat} {a b : Nat} (h : ∀ k, a < k → k < b → ltN d[k]! d[k - 1]! = false) : SortedIn ltN a b d := by
  intro i j hi hij hj
  have hn : ∀ n, i + n < b → d[i]! ≤ d[i + n]! := by
    intro n
    induction n with
    | zero => intro _; exact Nat.le_refl _
    | succ n ih =>
      intro hb
      have h1 := ih (by omega)
      have h2 := h (i + (n + 1)) (by omega) hb
      rw [show i + (n + 1) - 1 = i + n by omega] at h2
      unfold ltN at h2
      have h3 : ¬ d[i + (n + 1)]! < d[i + n]! := by simpa using h2
      omega
  have := hn (j - i) (by omega)
  rw [show i + (j - i) = j by omega] at this
  unfold ltN
  simpa using this

set_option maxRecDepth 100000 in
set_option maxHeartbeats 4000000 in
theorem partial_any (blk off cap a b : Nat) (d : Array Nat) (w : World) (hH : Holds encN w blk off d) (hab : a < b) (hb : b ≤ d.size) (hl : b < a + 50) (hsz : d.size < 1000000000) :
    Calls Try.prog 36 #[.slice (some ⟨blk, off, none⟩) d.size cap, .int .i64 a, .int .i64 b] w (Tried blk off a b d w) := by
  have HH := Go.Lib.hid hH
  have CL := Go.Lib.hid less_q
  clear hH
  go_enter Try.func36, Try.ntmps36
  go_wp2
  refine wp_loop_rounds 1 ?_
  rw [rounds_succ]
  go_wp2
  go_loopw [7] (fun vi wr => ∃ (i m : Nat), vi = .int .i64 i ∧ a < i ∧ i ≤ b ∧ Hid (wr = putRow encN (Sort.ahead w m) blk off d) ∧ Hid (∀ k, a < k → k < i → ltN d[k]! d[k - 1]! = false)) (fun vi _ => b + 1 - (intOf vi).toNat)
  case atStart => exact ⟨a + 1, 0, by go_num, by omega, by omega, (putRow_self _ _ _ _ _ HH.out).symm, fun k h1 h2 => by omega⟩
  case round =>
    obtain ⟨i, m, rfl, hai, hib, hw, hR⟩ := hrel
    obtain ⟨G, hG, hcw, hfw⟩ := row_facts HH.out rfl hw.out
    have HG := Go.Lib.hid hG
    clear hG
    have HX := Go.Lib.hid (fun q => show wr.drewN q = putRow encN (Sort.ahead w (m + q)) blk off d by rw [hw.out]; exact putRow_drewN _ _ _ _ _ _ _)
    by_cases hlt : i < b
    · have j0 : i < d.size := by omega
      have j1 : i - 1 < d.size := by omega
      have hne : ¬ i = b := by omega
      cases hg : ltN (G i) (G (i - 1))
      · have C := Go.Lib.hid (fun w => hg ▸ CL.out (G i) (G (i - 1)) w)
        have GO := Go.Lib.hid (show ∀ k, a < k → k < i + 1 → ltN d[k]! d[k - 1]! = false from fun k h1 h2 => by
          by_cases hk : k < i
          · exact hR.out k h1 hk
          · rw [show k = i by omega, ← HG.out, ← HG.out]; exact hg)
        clear hg
        go_wp2
        go_quiet (first | (go_at_call 37; refine Calls.quiet_of_same (C.out _)))
        go_wp2
        go_roundw
        case rel => exact ⟨i + 1, m + nq, by go_num, by omega, by omega, HX.out _, GO.out⟩
        case measure => simp [intOf]; omega
      · have C := Go.Lib.hid (fun w => hg ▸ CL.out (G i) (G (i - 1)) w)
        clear hg
        go_wp2
        go_quiet (first | (go_at_call 37; refine Calls.quiet_of_same (C.out _)))
        go_wp2
        go_ret
        exact ⟨false, rfl, Go.Lib.hid (fun h => absurd h (by simp)), _, HX.out nq⟩
    · have hib2 : i = b := by omega
      have hd : decide ((i : Int) < (b : Int)) = false := by simp; omega
      have DN := Go.Lib.hid (show SortedIn ltN a b d from sorted_of_steps (hib2 ▸ hR.out))
      subst hib2
      go_wp2
      go_quiet (first | (go_at_call 37; refine Calls.quiet_of_same (CL.out _ _ _)))
      go_wp2
      go_ret
      exact ⟨true, rfl, fun _ => DN.out, _, HX.out nq⟩
end Go.Proofs.Ytifaclbafmpiiaa.Srt
