/- walk.halves: whether two are the halves of one. -/
import Derived.Test.YtgjdpmpbldofpaaDoorWlkTop
import Derived.Test.YtgjdpmpbldofpaaDoorPfxHalves
import Derived.Test.YtgjdpmpbldofpaaDoorPfxCommon
namespace Go.Proofs.YtgjdpmpbldofpaaDoor.Wlk
open Go.RowKit Go.Sort Mem Pfx PR

/-- Whether l and h are the halves of the block of 2 ^ j from a on. -/
def hvB (a k : Nat) (l h : Pf) : Bool := decide (k < 32) && (decide (a = l.a) && decide (((k + 1 : Nat) : Int) = l.n)) && (decide (highN a k = h.a) && decide (((k + 1 : Nat) : Int) = h.n))
theorem beqN (a b : Nat) : ((a : Int) == (b : Int)) = decide (a = b) := by
  by_cases h : a = b
  · subst h; simp
  · rw [decide_eq_false h]; simp; omega
theorem beqI (a b : Int) : (a == b) = decide (a = b) := by
  by_cases h : a = b
  · subst h; simp
  · rw [decide_eq_false h]; simp; omega
set_option maxHeartbeats 2000000 in
theorem halves_any (pa k : Nat) (hp : G ⟨pa, (k : Int)⟩) (l h : Pf) (w : World) :
    Calls Tryd.prog 31 #[.agg #[.int .u32 pa, .int .i64 k], .agg #[.int .u32 l.a, .int .i64 l.n], .agg #[.int .u32 h.a, .int .i64 h.n]] w (Tells (.bool (hvB pa k l h)) w) := by
  have hpa := hp.2
  have hk := hp.len
  dsimp only at hpa hk
  obtain ⟨la, ln⟩ := l
  obtain ⟨ha, hn⟩ := h
  unfold hvB
  dsimp only
  have hb := below_new3 w (.cells #[.int .u32 (pa : Int), .int .i64 k] 24) (.cells #[.int .u32 (la : Int), .int .i64 ln] 24) (.cells #[.int .u32 (ha : Int), .int .i64 hn] 24)
  obtain ⟨c0, c1, c2, c3, c4, c5⟩ := cells_six w (.int .u32 (pa : Int)) (.int .i64 k) (.int .u32 (la : Int)) (.int .i64 ln) (.int .u32 (ha : Int)) (.int .i64 hn) 24
  rcases Nat.lt_or_ge k 32 with h32 | h32
  · have CH := Go.Lib.hid (fun W => halves_good pa k hpa hp.1 h32 W)
    have e32 : decide (k < 32) = true := decide_eq_true h32
    rw [e32]
    obtain ⟨k1, hk1⟩ : ∃ k1, k1 = k + 1 := ⟨_, rfl⟩
    obtain ⟨hi, hhi⟩ : ∃ hi, hi = highN pa k := ⟨_, rfl⟩
    rw [← hk1, ← hhi] at CH ⊢
    clear hp hpa hk e32 h32 hk1 hhi
    have HB := Go.Lib.hid hb
    obtain ⟨b0, h0⟩ : ∃ b, b = decide (pa = la) := ⟨_, rfl⟩
    obtain ⟨b1, h1⟩ : ∃ b, b = decide ((k1 : Int) = ln) := ⟨_, rfl⟩
    obtain ⟨b2, h2⟩ : ∃ b, b = decide (hi = ha) := ⟨_, rfl⟩
    obtain ⟨b3, h3⟩ : ∃ b, b = decide ((k1 : Int) = hn) := ⟨_, rfl⟩
    have y0 : ((pa : Int) == (la : Int)) = b0 := by rw [h0]; exact beqN _ _
    have y1 : ((k1 : Int) == ln) = b1 := by rw [h1]; exact beqI _ _
    have y2 : ((hi : Int) == (ha : Int)) = b2 := by rw [h2]; exact beqN _ _
    have y3 : ((k1 : Int) == hn) = b3 := by rw [h3]; exact beqI _ _
    rw [← h0, ← h1, ← h2, ← h3]
    clear h0 h1 h2 h3 hb
    have hsz : w.heap.size + 1 + 1 + 1 = (((w.alloc (.cells #[.int .u32 (pa : Int), .int .i64 k] 24)).alloc (.cells #[.int .u32 (la : Int), .int .i64 ln] 24)).alloc (.cells #[.int .u32 (ha : Int), .int .i64 hn] 24)).heap.size := by simp
    rcases b0 with _ | _ <;> rcases b1 with _ | _ <;> rcases b2 with _ | _ <;> rcases b3 with _ | _
    all_goals
      go_enter Tryd.func31, Tryd.ntmps31
      go_wp2_with fail
      generalize ((w.alloc (.cells #[.int .u32 (pa : Int), .int .i64 k] 24)).alloc (.cells #[.int .u32 (la : Int), .int .i64 ln] 24)).alloc (.cells #[.int .u32 (ha : Int), .int .i64 hn] 24) = W at HB c0 c1 c2 c3 c4 c5 hsz ⊢
      go_wp2_with (go_at_call 42; refine (CH.out _).mono ?_; rintro e w1 ⟨rfl, hb1⟩; replace c2 := keeps hb1 c2; replace c3 := keeps hb1 c3; replace c4 := keeps hb1 c4; replace c5 := keeps hb1 c5; replace HB := Go.Lib.hid (Pfx.Below.tr HB.out hb1); have z0 : w.heap.size < w1.heap.size := (by have := hb1.size; omega); have z1 : w.heap.size + 1 < w1.heap.size := (by have := hb1.size; omega); have z2 : w.heap.size + 2 < w1.heap.size := (by have := hb1.size; omega); clear hb1 c0 c1 hsz)
      go_ret
      exact ⟨rfl, (HB.out.alloc HB.out.size _).alloc (by have := HB.out.size; simp; omega) _⟩
  · have e32 : decide (k < 32) = false := decide_eq_false (by omega)
    rw [e32]
    simp only [Bool.false_and]
    have hk2 : k = 32 := by omega
    have CH := Go.Lib.hid (fun W => halves_bad pa (k : Int) hpa (.inr (by omega)) W)
    clear hp hpa hk e32 h32 hk2
    have HB := Go.Lib.hid hb
    clear hb
    go_enter Tryd.func31, Tryd.ntmps31
    go_wp2_with fail
    generalize ((w.alloc (.cells #[.int .u32 (pa : Int), .int .i64 k] 24)).alloc (.cells #[.int .u32 (la : Int), .int .i64 ln] 24)).alloc (.cells #[.int .u32 (ha : Int), .int .i64 hn] 24) = W at HB c0 c1 c2 c3 c4 c5 ⊢
    go_wp2_with (go_at_call 42; refine (CH.out _).mono ?_; rintro e w1 ⟨rfl, hb1⟩; replace HB := Go.Lib.hid (Pfx.Below.tr HB.out hb1); clear hb1 c0 c1 c2 c3 c4 c5)
    go_ret
    exact ⟨rfl, (HB.out.alloc HB.out.size _).alloc (by have := HB.out.size; simp; omega) _⟩
end Go.Proofs.YtgjdpmpbldofpaaDoor.Wlk
