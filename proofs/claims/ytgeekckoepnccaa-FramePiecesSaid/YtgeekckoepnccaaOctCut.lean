/- What cut takes off a reader. -/
import Derived.Test.YtgeekckoepnccaaOctRead
import Derived.Test.YtgeekckoepnccaaAhead
namespace Go.Proofs.Ytgeekckoepnccaa.Oct
open Go.RowKit Mem Ahead

/-- What cut gives. -/
def CutF (base n : Nat) (v : Value) (F : Nat → Prop) (l : List Nat) (bad : Bool) (k : Int) (w : World) (e : Ending) (w' : World) : Prop :=
  ∃ A c, e = .returned (.tuple #[.slice A (got l bad k).length c, .bool (!fails l bad k)]) ∧ U8s w' (.slice A (got l bad k).length c) (got l bad k) ∧ Lies n F (.slice A (got l bad k).length c) ∧ R w' base n v (rest l bad k) (fails l bad k) F ∧ Only F w w'
theorem fails_of {l : List Nat} {bad : Bool} {k : Int} (h : fails l bad k = true) : got l bad k = [] ∧ rest l bad k = [] := by simp [got, rest, h]
theorem cut_fail {base n : Nat} {v : Value} {F : Nat → Prop} {l : List Nat} {bad : Bool} {k : Int} {w w' : World} (h : fails l bad k = true) (hR : R w' base n v [] true F) (ho : Only F w w') :
    CutF base n v F l bad k w (.returned (.tuple #[.slice none 0 0, .bool false])) w' := by
  obtain ⟨h1, h2⟩ := fails_of h
  unfold CutF
  rw [h1, h2, h]
  exact ⟨none, 0, rfl, U8s.nil w', (fun g hg => by cases hg), hR, ho⟩
theorem cut_done {base n b c : Nat} {l : List Nat} {A : Option Addr} {k : Int} {w w1 W : World} (h2 : base ≤ b) (h3 : b < n) (h4 : n ≤ w.heap.size) (hb : Below w.heap.size w w1)
    (h5 : w1.heap[b]? = some (.cells #[.slice A l.length c, .bool false] 79)) (hf : fails l false k = true)
    (hW : W = (w1.setCell ⟨b, 0, none⟩ (.slice none 0 0)).setCell ⟨b, 1, none⟩ (.bool true)) :
    CutF base n (.pointer (some ⟨b, 0, none⟩)) (fun k => k = b) l false k w (.returned (.tuple #[.slice none 0 0, .bool false])) W := by
  subst hW
  have ho : Only (fun k => k = b) w ((w1.setCell ⟨b, 0, none⟩ (.slice none 0 0)).setCell ⟨b, 1, none⟩ (.bool true)) := Only.set (F := fun k => k = b) (Only.set (F := fun k => k = b) (Only.of hb) rfl _) rfl _
  exact cut_fail hf (.inr ⟨b, .slice none 0 0, rfl, h2, h3, Nat.le_trans h4 ho.size, set1 _ (set0 _ h5), U8s.nil _, (fun g hg => by cases hg), fun _ => rfl, rfl⟩) ho
theorem cut_good {base n b c j : Nat} {l : List Nat} {A : Option Addr} {w w1 W : World} {X : Value} (h2 : base ≤ b) (h3 : b < n) (h4 : n ≤ w.heap.size) (hb : Below w.heap.size w w1)
    (h5 : w1.heap[b]? = some (.cells #[.slice A l.length c, .bool false] 79)) (h6 : U8s w (.slice A l.length c) l) (h7 : Lies n (fun k => k = b) (.slice A l.length c)) (hf : fails l false (j : Int) = false)
    (hj : j ≤ l.length) (hX : X = .slice (if c = j then A else A.map (fun x => x.add j)) (l.length - j) (c - j)) (hW : W = (w1.setCell ⟨b, 0, none⟩ X).drew) :
    CutF base n (.pointer (some ⟨b, 0, none⟩)) (fun k => k = b) l false (j : Int) w (.returned (.tuple #[.slice A j j, .bool true])) W := by
  subst hW
  have ho : Only (fun k => k = b) w (w1.setCell ⟨b, 0, none⟩ X).drew := (Only.set (F := fun k => k = b) (Only.of hb) rfl _).drew
  have hg : got l false (j : Int) = l.take j := by simp [got, hf]
  have hr : rest l false (j : Int) = l.drop j := by simp [rest, hf]
  have hlen : (l.take j).length = j := by rw [List.length_take]; omega
  obtain ⟨_, _, _, hlc, hc⟩ := h6.form
  have hm : j ≤ maxLen := by
    obtain ⟨⟨_, _, _, e, h8, h9, _⟩, _⟩ := h6
    injection e with e1 e2 e3
    omega
  have hin : ∀ g, (Value.slice A l.length c).ownBlock = some g → (w1.setCell ⟨b, 0, none⟩ X).drew.heap[g]? = w.heap[g]? := fun g hg => ho.block g (by have := (h7 g hg).1; omega) (h7 g hg).2
  unfold CutF
  rw [hg, hr, hf, hlen]
  refine ⟨A, j, rfl, (h6.prefix_ hj (Nat.le_refl _) hm).part (fun g hg => hin g (own_at hg)) ho.size, fun g hg => h7 g (own_at hg), .inr ⟨b, X, rfl, h2, h3, Nat.le_trans h4 ho.size, set0 _ h5, ?_, ?_, (fun h => by cases h), rfl⟩, ho⟩
  · subst hX
    exact (h6.cut hj).part (fun g hg => hin g (cut_own hg)) ho.size
  · subst hX
    exact fun g hg => h7 g (cut_own hg)

set_option maxRecDepth 100000 in
set_option maxHeartbeats 2000000 in
theorem cut_any (v : Value) (base n : Nat) (l : List Nat) (bad : Bool) (F : Nat → Prop) (k : Int) (hk : (Lit.int .i64 k).wf = true) (w : World) (hR : R w base n v l bad F) :
    Calls Try.prog 40 #[v, .int .i64 k] w (CutF base n v F l bad k w) := by
  have CB := Go.Lib.hid (fun (W : World) (h : R W base n v l bad F) => bad_any v base n l bad F W h)
  have HR := Go.Lib.hid hR
  rcases hR with ⟨rfl, rfl, rfl, hF⟩ | ⟨b, s, rfl, h2, h3, h4, h5, h6, h7, h8, hF⟩
  · go_enter Try.func40, Try.ntmps40
    go_wp2
    go_step3
    go_wp2_with (go_at_call 44; have h := HR.out; refine (CB.out _ h).mono ?_; rintro e w1 ⟨rfl, hb1⟩; have B1 := Go.Lib.hid hb1; clear hb1 h)
    rw [Exit.noGoto_ret]
    go_ret2
    exact cut_fail rfl (HR.out.below B1.out) (Only.of B1.out)
  · subst hF
    cases bad with
    | true =>
      obtain rfl := h8 rfl
      go_enter Try.func40, Try.ntmps40
      go_wp2
      go_step3
      go_wp2_with (go_at_call 44; have h := HR.out; refine (CB.out _ h).mono ?_; rintro e w1 ⟨rfl, hb1⟩; have B1 := Go.Lib.hid hb1; clear hb1 h)
      rw [Exit.noGoto_ret]
      go_ret2
      exact cut_fail rfl (HR.out.below B1.out) (Only.of B1.out)
    | false =>
      obtain ⟨c0, c1⟩ := cell0 h5
      obtain ⟨A, c, rfl, hlc, hc⟩ := h6.form
      have H5 := Go.Lib.hid h5
      have H6 := Go.Lib.hid h6
      have H7 := Go.Lib.hid h7
      have hlt : b < w.heap.size := by omega
      by_cases hf : fails l false k = true
      · have HF := Go.Lib.hid hf
        simp only [fails, Bool.false_or, Bool.or_eq_true, decide_eq_true_eq] at hf
        clear h5 h6 h7 h8
        rcases hf with hf | hf
        · go_enter Try.func40, Try.ntmps40
          go_wp2
          refine wp_scope_ahead 0 (by rfl) ?_
          go_wp2_with (go_at_call 44; have h := HR.out; refine (CB.out _ h).mono ?_; rintro e w1 ⟨rfl, hb1⟩; have B1 := Go.Lib.hid hb1; have g5 := (hb1.block b hlt).trans H5.out; clear c0 c1; obtain ⟨c0, c1⟩ := cell0 g5; obtain ⟨f0, f1⟩ := free0 g5; have G5 := Go.Lib.hid g5; clear g5; clear hb1 h)
          go_step3
          refine ⟨rfl, ?_⟩
          go_wp2
          rw [Exit.noGoto_ret]
          go_ret2
          exact cut_done h2 h3 h4 B1.out G5.out HF.out rfl
        · go_enter Try.func40, Try.ntmps40
          have hf0 : decide (k < 0) = false := by simp; omega
          go_wp2
          refine wp_scope_ahead 0 (by rfl) ?_
          go_wp2_with (go_at_call 44; have h := HR.out; refine (CB.out _ h).mono ?_; rintro e w1 ⟨rfl, hb1⟩; have B1 := Go.Lib.hid hb1; have g5 := (hb1.block b hlt).trans H5.out; clear c0 c1; obtain ⟨c0, c1⟩ := cell0 g5; obtain ⟨f0, f1⟩ := free0 g5; have G5 := Go.Lib.hid g5; clear g5; clear hb1 h)
          go_step3
          refine ⟨rfl, ?_⟩
          go_wp2
          rw [Exit.noGoto_ret]
          go_ret2
          exact cut_done h2 h3 h4 B1.out G5.out HF.out rfl
      · have hf1 : fails l false k = false := by simpa using hf
        have hf2 := hf1
        simp only [fails, Bool.false_or, Bool.or_eq_false_iff, decide_eq_false_iff_not] at hf2
        obtain ⟨j, rfl⟩ := Int.eq_ofNat_of_zero_le (show 0 ≤ k by omega)
        have hj : j ≤ l.length := by have := hf2.2; omega
        have z0 : (0 : Int) ≤ (j : Int) := by omega
        have z1 : (j : Int) ≤ (l.length : Int) := by omega
        have z2 : (l.length : Int) ≤ (c : Int) := by omega
        have z3 : (j : Int) ≤ (c : Int) := by omega
        have z4 : ¬ ((j : Int) < 0) := by omega
        have z5 : ¬ ((l.length : Int) < (j : Int)) := by omega
        clear hf hf2
        have H1 := Go.Lib.hid hf1
        clear hf1 h5 h6 h7 h8
        cases A with
        | none =>
          obtain rfl : j = 0 := by
            obtain ⟨⟨_, _, _, e, _, _, hr⟩, _⟩ := H6.out
            injection e with e1 e2 e3
            subst e1
            rcases Nat.eq_zero_or_pos l.length with h | h
            · omega
            · obtain ⟨_, _, h0, _⟩ := hr h
              cases h0
          go_enter Try.func40, Try.ntmps40
          go_wp2
          go_step3
          go_wp2_with (go_at_call 44; have h := HR.out; refine (CB.out _ h).mono ?_; rintro e w1 ⟨rfl, hb1⟩; have B1 := Go.Lib.hid hb1; have g5 := (hb1.block b hlt).trans H5.out; clear c0 c1; obtain ⟨c0, c1⟩ := cell0 g5; obtain ⟨f0, f1⟩ := free0 g5; have G5 := Go.Lib.hid g5; clear g5; clear hb1 h)
          go_region
          all_goals go_wp2
          all_goals (first | rw [Exit.noGoto_ret] | skip)
          all_goals go_ret2
          all_goals exact cut_good h2 h3 h4 B1.out G5.out H6.out H7.out H1.out hj (by simp [*]) rfl
        | some ad =>
          go_enter Try.func40, Try.ntmps40
          go_wp2
          go_step3
          go_wp2_with (go_at_call 44; have h := HR.out; refine (CB.out _ h).mono ?_; rintro e w1 ⟨rfl, hb1⟩; have B1 := Go.Lib.hid hb1; have g5 := (hb1.block b hlt).trans H5.out; clear c0 c1; obtain ⟨c0, c1⟩ := cell0 g5; obtain ⟨f0, f1⟩ := free0 g5; have G5 := Go.Lib.hid g5; clear g5; clear hb1 h)
          go_region
          all_goals go_wp2
          all_goals (first | rw [Exit.noGoto_ret] | skip)
          all_goals go_ret2
          all_goals exact cut_good h2 h3 h4 B1.out G5.out H6.out H7.out H1.out hj (by simp [*]) rfl
end Go.Proofs.Ytgeekckoepnccaa.Oct
