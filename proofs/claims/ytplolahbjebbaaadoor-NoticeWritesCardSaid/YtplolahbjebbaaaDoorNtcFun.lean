/- Notices: which are good, which are the same, which are none, and what a session is closed with: the program's, and the reference's Good. -/
import Derived.Test.YtplolahbjebbaaaDoorAttrTold
import Derived.Test.YtplolahbjebbaaaDoorBoxes
namespace Go.Proofs.YtplolahbjebbaaaDoor.Ntc
open Go.RowKit Mem Oct Att
open Go.Lib (hid)

def goodN (n : No) : Bool := decide (1 ≤ n.code ∧ n.code ≤ 255 ∧ 0 ≤ n.sub ∧ n.sub ≤ 255 ∧ n.data.length ≤ 4075)
theorem goodN_of {n : No} (h : goodN n = true) : 1 ≤ n.code ∧ n.code ≤ 255 ∧ 0 ≤ n.sub ∧ n.sub ≤ 255 ∧ n.data.length ≤ 4075 := of_decide_eq_true h
/-- A box of a notice's own. -/
theorem ntc_box (w : World) (x y z : Value) : Below w.heap.size w (w.alloc (.cells #[x, y, z] 24)) := (Below.refl _ w).alloc (Nat.le_refl _) _
set_option maxHeartbeats 1000000 in
theorem good_any (v : Value) (n : No) (w : World) (h : Note w v n) : Calls Tryd.prog 8 #[v] w (Tells (.bool (goodN n)) w) := by
  obtain ⟨-, -, vd, rfl, hd⟩ := h
  obtain ⟨c, s, l⟩ := n
  dsimp only at hd ⊢
  obtain ⟨A, cp, rfl, -, -⟩ := hd.form
  have BB := hid (ntc_box w (.int .i64 c) (.int .i64 s) (.slice A l.length cp))
  clear hd
  unfold goodN
  dsimp only
  rcases (show c < 1 ∨ 1 ≤ c ∧ 255 < c ∨ 1 ≤ c ∧ c ≤ 255 ∧ s < 0 ∨ 1 ≤ c ∧ c ≤ 255 ∧ 0 ≤ s ∧ 255 < s ∨ 1 ≤ c ∧ c ≤ 255 ∧ 0 ≤ s ∧ s ≤ 255 by omega) with h1 | ⟨h1, h2⟩ | ⟨h1, h2, h3⟩ | ⟨h1, h2, h3, h4⟩ | ⟨h1, h2, h3, h4⟩
  all_goals
    first
      | rw [decide_eq_false (by omega)]
      | rw [show decide (1 ≤ c ∧ c ≤ 255 ∧ 0 ≤ s ∧ s ≤ 255 ∧ l.length ≤ 4075) = decide ((l.length : Int) ≤ 4075) from decide_eq_decide.2 (by omega)]
    go_enter Tryd.func8, Tryd.ntmps8
    go_wp2
    go_ret
    exact ⟨rfl, BB.out⟩
set_option maxHeartbeats 1000000 in
theorem rgood_any (v : Value) (n : No) (w : World) (h : Note w v n) : Calls Tryd.prog 9 #[v] w (Tells (.bool (goodN n)) w) := by
  obtain ⟨-, -, vd, rfl, hd⟩ := h
  obtain ⟨c, s, l⟩ := n
  dsimp only at hd ⊢
  obtain ⟨A, cp, rfl, -, -⟩ := hd.form
  have BB := hid (ntc_box w (.int .i64 c) (.int .i64 s) (.slice A l.length cp))
  clear hd
  unfold goodN
  dsimp only
  rcases (show c ≤ 0 ∨ 0 < c ∧ 256 ≤ c ∨ 0 < c ∧ c < 256 ∧ s < 0 ∨ 0 < c ∧ c < 256 ∧ 0 ≤ s ∧ 256 ≤ s ∨ 0 < c ∧ c < 256 ∧ 0 ≤ s ∧ s < 256 by omega) with h1 | ⟨h1, h2⟩ | ⟨h1, h2, h3⟩ | ⟨h1, h2, h3, h4⟩ | ⟨h1, h2, h3, h4⟩
  all_goals
    first
      | rw [decide_eq_false (by omega)]
      | rw [show decide (1 ≤ c ∧ c ≤ 255 ∧ 0 ≤ s ∧ s ≤ 255 ∧ l.length ≤ 4075) = decide ((l.length : Int) ≤ 4075) from decide_eq_decide.2 (by omega)]
    go_enter Tryd.func9, Tryd.ntmps9
    go_wp2
    go_ret
    exact ⟨rfl, BB.out⟩
/-- bytes.Equal. -/
theorem equal8_any (v x : Value) (l m : List Nat) (w : World) (hv : U8s w v l) (hx : U8s w x m) : Calls Tryd.prog 21 #[v, x] w fun e w' => e = .returned (.bool (decide (l = m))) ∧ w = w' := by
  have t1 := text8 hv
  have t2 := text8 hx
  have t3 := txt_eq hv.2 hx.2
  clear hv hx
  generalize decide (l = m) = r at t3 ⊢
  go_enter Tryd.func21, Tryd.ntmps21
  go_wp2
  go_ret
  exact ⟨rfl, rfl⟩
set_option maxHeartbeats 1000000 in
theorem same_any (va vb : Value) (a b : No) (w : World) (ha : Note w va a) (hb : Note w vb b) : Calls Tryd.prog 10 #[va, vb] w (Tells (.bool (sameN a b)) w) := by
  obtain ⟨-, -, vd, rfl, hd⟩ := ha
  obtain ⟨-, -, vd', rfl, hd'⟩ := hb
  obtain ⟨c, s, l⟩ := a
  obtain ⟨c', s', l'⟩ := b
  dsimp only at hd hd' ⊢
  have B1 := ntc_box w (.int .i64 c) (.int .i64 s) vd
  have B2 := ntc_box (w.alloc (.cells #[.int .i64 c, .int .i64 s, vd] 24)) (.int .i64 c') (.int .i64 s') vd'
  have BB := hid (B1.trans (B2.mono B1.size))
  obtain ⟨a0, a1, a2⟩ := three_cells w (.int .i64 c) (.int .i64 s) vd 24
  replace a0 := keepsT B2 a0
  replace a1 := keepsT B2 a1
  replace a2 := keepsT B2 a2
  obtain ⟨b0, b1, b2⟩ := three_cells (w.alloc (.cells #[.int .i64 c, .int .i64 s, vd] 24)) (.int .i64 c') (.int .i64 s') vd' 24
  have e : (w.alloc (.cells #[.int .i64 c, .int .i64 s, vd] 24)).heap.size = w.heap.size + 1 := by simp
  rw [e] at b0 b1 b2
  have CE := hid (equal8_any vd vd' l l' _ (hd.keep BB.out) (hd'.keep BB.out))
  clear hd hd' B1 B2 e
  unfold sameN
  dsimp only
  generalize decide (l = l') = r at CE ⊢
  by_cases h1 : c = c'
  case neg =>
    have y : (c == c') = false := by simp [h1]
    rw [decide_eq_false h1]
    go_enter Tryd.func10, Tryd.ntmps10
    go_wp2
    go_ret
    exact ⟨rfl, BB.out⟩
  subst h1
  by_cases h2 : s = s'
  case neg =>
    have y : (s == s') = false := by simp [h2]
    rw [decide_eq_false h2, decide_eq_true rfl]
    go_enter Tryd.func10, Tryd.ntmps10
    go_wp2
    go_ret
    exact ⟨rfl, BB.out⟩
  subst h2
  rw [decide_eq_true rfl, decide_eq_true rfl]
  simp only [Bool.true_and]
  go_enter Tryd.func10, Tryd.ntmps10
  go_wp2_with (go_at_call 21; refine (CE.out).mono ?_; rintro e x ⟨rfl, rfl⟩)
  go_ret
  exact ⟨rfl, BB.out⟩
def noN : No := ⟨0, 0, []⟩
theorem note_zero (W : World) : Note W (.agg #[.int .i64 0, .int .i64 0, .slice none 0 0]) noN := ⟨by decide, by decide, _, rfl, U8s.nil W⟩
theorem none_any (v : Value) (n : No) (w : World) (h : Note w v n) : Calls Tryd.prog 12 #[v] w (Tells (.bool (sameN n noN)) w) := by
  have H := hid h
  obtain ⟨-, -, vd, rfl, hd⟩ := h
  have BB := hid (ntc_box w (.int .i64 n.code) (.int .i64 n.sub) vd)
  have CS := hid (same_any _ _ n noN _ (H.out.keep BB.out) (note_zero _))
  clear hd
  generalize sameN n noN = r at CS ⊢
  go_enter Tryd.func12, Tryd.ntmps12
  go_wp2_with (go_at_call 10; refine (CS.out).mono ?_; rintro e x ⟨rfl, hb⟩)
  go_ret
  exact ⟨rfl, BB.out.trans (hb.mono BB.out.size)⟩
/-- A notice with this subcode, and nothing old turned. -/
theorem close_any (s : Int) (w : World) : Calls Tryd.prog 17 #[.int .i64 s] w fun e w' => e = .returned (.agg #[.int .i64 6, .int .i64 s, .slice none 0 0]) ∧ Below w.heap.size w w' := by
  have B0 := Box3.new w 24 (.int .i64 0) (.int .i64 0) (.slice none 0 0)
  obtain ⟨c0, c1, c2⟩ := B0.cells
  have ff := B0.free
  have BB := hid (ntc_box w (.int .i64 6) (.int .i64 s) (.slice none 0 0))
  clear B0
  go_enter Tryd.func17, Tryd.ntmps17
  go_wp2
  (try simp only [Exit.inBlock, Exit.then])
  refine bodyPost_ret (by simp [results, Tryd.results17, go_sem]) rfl ⟨rfl, BB.out⟩
end Go.Proofs.YtplolahbjebbaaaDoor.Ntc
