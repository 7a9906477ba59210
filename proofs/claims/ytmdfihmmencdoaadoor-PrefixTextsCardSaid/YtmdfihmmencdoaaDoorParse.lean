/- The contract of Parse: it reads just what parseT reads. -/
import Derived.Test.YtmdfihmmencdoaaDoorParseAddr
import Derived.Test.YtmdfihmmencdoaaDoorPfxHalves
import Derived.Handy
namespace Go.Proofs.YtmdfihmmencdoaaDoor.Pfx
open Go.RowKit Go.Sort

theorem frozen_two (w : World) (x y : Value) (t : TypeId) : (w.alloc (.cells #[x, y] t)).frozen? ⟨w.heap.size, 0, none⟩ = false ∧ (w.alloc (.cells #[x, y] t)).frozen? ⟨w.heap.size, 1, none⟩ = false := by
  constructor <;> simp [go_sem]

/-- What Parse hands back. -/
def parseV (o : Option (Nat × Nat)) : Value := match o with | some (a, n) => .tuple #[.agg #[.int .u32 a, .int .i64 n], .int .i64 0] | none => .tuple #[.agg #[.int .u32 0, .int .i64 0], .int .i64 2]

theorem parse_any (s : List UInt8) (m : Int) (w : World) (hs : s.length < 4294967281) (hm : w.cell? ⟨0, 0, none⟩ = some (.int .i64 m)) :
    Calls Tryd.prog 24 #[.string (strOf s)] w fun e w' => e = .returned (parseV (parseT s)) ∧ Below w.heap.size w w' := by
  obtain ⟨R, hR⟩ : ∃ R, R = parseT s := ⟨_, rfl⟩
  rw [← hR]
  obtain ⟨A, B, pt, hcut⟩ : ∃ A B pt, Lib.cut s [47] = (A, B, pt) := ⟨_, _, _, rfl⟩
  have hlen := cut_short s 47
  unfold parseT at hR
  rw [hcut] at hlen hR
  simp only at hlen hR
  have CC : Hid (∀ w0 : World, w0.cell? ⟨0, 0, none⟩ = some (.int .i64 m) → Calls Tryd.prog 35 #[.string (strOf s), .string ⟨#[47]⟩] w0 fun e w' => e = .returned (.tuple #[.string (strOf A), .string (strOf B), .bool pt]) ∧ Below w0.heap.size w0 w') := Go.Lib.hid (fun w0 h0 => by
    have hC := cut_call (strOf s) ⟨#[47]⟩ m w0 (by rw [strOf_size]; exact hs) h0
    rwa [show (strOf s).data.toList = s by simp [strOf], show (ByteArray.mk #[47]).data.toList = [47] from rfl, hcut] at hC)
  have hA := fun w0 => parseAddr_any A m w0 (by omega)
  have hN := number_any (strOf B) 32
  rw [show (strOf B).data.toList = B by simp [strOf]] at hN
  have hb := below_new w (.cells #[.int .u32 0, .int .i64 0] 24)
  obtain ⟨c0, c1⟩ := cells_two w (.int .u32 0) (.int .i64 0) 24
  obtain ⟨f0, f1⟩ := frozen_two w (.int .u32 0) (.int .i64 0) 24
  have hz0 : w.heap.size ≤ w.heap.size := Nat.le_refl _
  clear hcut hlen hs
  have HM := Go.Lib.hid hm
  clear hm
  cases hPA : stepAddr 4 A 0 with
  | none =>
    rw [hPA] at hA hR
    have CA := Go.Lib.hid hA
    have CN := Go.Lib.hid hN
    have HE : Hid (R = none) := Go.Lib.hid hR
    clear hA hN hR hPA
    cases hPN : numP 32 B with
    | none =>
      rw [hPN] at CN
      go_enter Tryd.func24, Tryd.ntmps24
      go_wp2_with fail
      generalize w.alloc (.cells #[.int .u32 0, .int .i64 0] 24) = W at hb c0 c1 f0 f1 ⊢
      go_wp2_with (first
        | (go_at_call 35; refine (CC.out _ (keeps hb HM.out)).mono ?_; rintro e w1 ⟨rfl, hb1⟩; have c0' := c0; have c1' := c1; replace c0 := keeps hb1 c0; replace c1 := keeps hb1 c1; replace f0 := keepsF hb1 c0' f0; replace f1 := keepsF hb1 c1' f1; replace hb := Below.tr hb hb1; clear hb1 c0' c1')
        | (go_at_call 26; refine (CA.out _ (keeps hb HM.out)).mono ?_; rintro e w1 ⟨rfl, hb1⟩; have c0' := c0; have c1' := c1; replace c0 := keeps hb1 c0; replace c1 := keeps hb1 c1; replace f0 := keepsF hb1 c0' f0; replace f1 := keepsF hb1 c1' f1; replace hb := Below.tr hb hb1; clear hb1 c0' c1'; have hz := block_lt_of_cell c0; have hz2 : ¬ w.heap.size = w1.heap.size := Nat.ne_of_lt hz; try unfold addrV)
        | (go_at_call 36; refine (CN.out _).mono ?_; rintro e w2 ⟨rfl, rfl⟩; try unfold numV))
      refine bodyPost_ret (v := .tuple #[.agg #[.int .u32 0, .int .i64 0], .int .i64 2]) (by simp [results, Tryd.results24, go_sem, *]) rfl ⟨by rw [HE.out]; rfl, ?_⟩
      go_grown
    | some n =>
      rw [hPN] at CN
      go_enter Tryd.func24, Tryd.ntmps24
      go_wp2_with fail
      generalize w.alloc (.cells #[.int .u32 0, .int .i64 0] 24) = W at hb c0 c1 f0 f1 ⊢
      go_wp2_with (first
        | (go_at_call 35; refine (CC.out _ (keeps hb HM.out)).mono ?_; rintro e w1 ⟨rfl, hb1⟩; have c0' := c0; have c1' := c1; replace c0 := keeps hb1 c0; replace c1 := keeps hb1 c1; replace f0 := keepsF hb1 c0' f0; replace f1 := keepsF hb1 c1' f1; replace hb := Below.tr hb hb1; clear hb1 c0' c1')
        | (go_at_call 26; refine (CA.out _ (keeps hb HM.out)).mono ?_; rintro e w1 ⟨rfl, hb1⟩; have c0' := c0; have c1' := c1; replace c0 := keeps hb1 c0; replace c1 := keeps hb1 c1; replace f0 := keepsF hb1 c0' f0; replace f1 := keepsF hb1 c1' f1; replace hb := Below.tr hb hb1; clear hb1 c0' c1'; have hz := block_lt_of_cell c0; have hz2 : ¬ w.heap.size = w1.heap.size := Nat.ne_of_lt hz; try unfold addrV)
        | (go_at_call 36; refine (CN.out _).mono ?_; rintro e w2 ⟨rfl, rfl⟩; try unfold numV))
      refine bodyPost_ret (v := .tuple #[.agg #[.int .u32 0, .int .i64 0], .int .i64 2]) (by simp [results, Tryd.results24, go_sem, *]) rfl ⟨by rw [HE.out]; rfl, ?_⟩
      go_grown
  | some a =>
    have ha := (parseAddr_sound hPA).1
    rw [hPA] at hA hR
    have CA := Go.Lib.hid hA
    clear hA hPA
    cases hPN : numP 32 B with
    | none =>
      rw [hPN] at hN hR
      have CN := Go.Lib.hid hN
      have HE : Hid (R = none) := Go.Lib.hid hR
      clear hN hR hPN
      go_enter Tryd.func24, Tryd.ntmps24
      go_wp2_with fail
      generalize w.alloc (.cells #[.int .u32 0, .int .i64 0] 24) = W at hb c0 c1 f0 f1 ⊢
      go_wp2_with (first
        | (go_at_call 35; refine (CC.out _ (keeps hb HM.out)).mono ?_; rintro e w1 ⟨rfl, hb1⟩; have c0' := c0; have c1' := c1; replace c0 := keeps hb1 c0; replace c1 := keeps hb1 c1; replace f0 := keepsF hb1 c0' f0; replace f1 := keepsF hb1 c1' f1; replace hb := Below.tr hb hb1; clear hb1 c0' c1')
        | (go_at_call 26; refine (CA.out _ (keeps hb HM.out)).mono ?_; rintro e w1 ⟨rfl, hb1⟩; have c0' := c0; have c1' := c1; replace c0 := keeps hb1 c0; replace c1 := keeps hb1 c1; replace f0 := keepsF hb1 c0' f0; replace f1 := keepsF hb1 c1' f1; replace hb := Below.tr hb hb1; clear hb1 c0' c1'; have hz := block_lt_of_cell c0; have hz2 : ¬ w.heap.size = w1.heap.size := Nat.ne_of_lt hz; try unfold addrV)
        | (go_at_call 36; refine (CN.out _).mono ?_; rintro e w2 ⟨rfl, rfl⟩; try unfold numV))
      refine bodyPost_ret (v := .tuple #[.agg #[.int .u32 0, .int .i64 0], .int .i64 2]) (by simp [results, Tryd.results24, go_sem, *]) rfl ⟨by rw [HE.out]; rfl, ?_⟩
      go_grown
    | some n =>
      have hn := (numP_sound hPN).2.1
      rw [hPN] at hN hR
      have CN := Go.Lib.hid hN
      simp only at hR
      have CG := Go.Lib.hid (good_any a n ha)
      clear hN hPN
      have hgd := goodB_in (a := a) hn
      by_cases hg : cutN a n = a
      · rw [decide_eq_true hg] at hgd
        rw [if_pos hg] at hR
        have HE := Go.Lib.hid hR
        clear hR hg hn
        go_enter Tryd.func24, Tryd.ntmps24
        go_wp2_with fail
        generalize w.alloc (.cells #[.int .u32 0, .int .i64 0] 24) = W at hb c0 c1 f0 f1 ⊢
        go_wp2_with (first
          | (go_at_call 35; refine (CC.out _ (keeps hb HM.out)).mono ?_; rintro e w1 ⟨rfl, hb1⟩; have c0' := c0; have c1' := c1; replace c0 := keeps hb1 c0; replace c1 := keeps hb1 c1; replace f0 := keepsF hb1 c0' f0; replace f1 := keepsF hb1 c1' f1; replace hb := Below.tr hb hb1; clear hb1 c0' c1')
          | (go_at_call 26; refine (CA.out _ (keeps hb HM.out)).mono ?_; rintro e w1 ⟨rfl, hb1⟩; have c0' := c0; have c1' := c1; replace c0 := keeps hb1 c0; replace c1 := keeps hb1 c1; replace f0 := keepsF hb1 c0' f0; replace f1 := keepsF hb1 c1' f1; replace hb := Below.tr hb hb1; clear hb1 c0' c1'; have hz := block_lt_of_cell c0; have hz2 : ¬ w.heap.size = w1.heap.size := Nat.ne_of_lt hz; try unfold addrV)
          | (go_at_call 36; refine (CN.out _).mono ?_; rintro e w2 ⟨rfl, rfl⟩; try unfold numV)
          | (go_at_call 11; refine (CG.out _).mono ?_; rintro e w4 ⟨rfl, hb1⟩; have h0 := below_new w1 (.cells #[.int .u32 (a : Int), .int .i64 n] 24); have c0' := keeps h0 c0; have c1' := keeps h0 c1; have f0' := keepsF h0 c0 f0; have f1' := keepsF h0 c1 f1; obtain ⟨p0, p1⟩ := cells_two w1 (.int .u32 (a : Int)) (.int .i64 n) 24; replace c0 := keeps hb1 c0'; replace c1 := keeps hb1 c1'; replace f0 := keepsF hb1 c0' f0'; replace f1 := keepsF hb1 c1' f1'; replace p0 := keeps hb1 p0; replace p1 := keeps hb1 p1; replace hb := Below.tr hb (Below.tr h0 hb1); clear hb1 h0 c0' c1' f0' f1'))
        refine bodyPost_ret (v := .tuple #[.agg #[.int .u32 a, .int .i64 n], .int .i64 0]) (by simp [results, Tryd.results24, go_sem, *]) rfl ⟨by rw [HE.out]; rfl, ?_⟩
        go_grown
      · rw [decide_eq_false hg] at hgd
        rw [if_neg hg] at hR
        have HE := Go.Lib.hid hR
        clear hR hg hn
        go_enter Tryd.func24, Tryd.ntmps24
        go_wp2_with fail
        generalize w.alloc (.cells #[.int .u32 0, .int .i64 0] 24) = W at hb c0 c1 f0 f1 ⊢
        go_wp2_with (first
          | (go_at_call 35; refine (CC.out _ (keeps hb HM.out)).mono ?_; rintro e w1 ⟨rfl, hb1⟩; have c0' := c0; have c1' := c1; replace c0 := keeps hb1 c0; replace c1 := keeps hb1 c1; replace f0 := keepsF hb1 c0' f0; replace f1 := keepsF hb1 c1' f1; replace hb := Below.tr hb hb1; clear hb1 c0' c1')
          | (go_at_call 26; refine (CA.out _ (keeps hb HM.out)).mono ?_; rintro e w1 ⟨rfl, hb1⟩; have c0' := c0; have c1' := c1; replace c0 := keeps hb1 c0; replace c1 := keeps hb1 c1; replace f0 := keepsF hb1 c0' f0; replace f1 := keepsF hb1 c1' f1; replace hb := Below.tr hb hb1; clear hb1 c0' c1'; have hz := block_lt_of_cell c0; have hz2 : ¬ w.heap.size = w1.heap.size := Nat.ne_of_lt hz; try unfold addrV)
          | (go_at_call 36; refine (CN.out _).mono ?_; rintro e w2 ⟨rfl, rfl⟩; try unfold numV)
          | (go_at_call 11; refine (CG.out _).mono ?_; rintro e w4 ⟨rfl, hb1⟩; have h0 := below_new w1 (.cells #[.int .u32 (a : Int), .int .i64 n] 24); have c0' := keeps h0 c0; have c1' := keeps h0 c1; have f0' := keepsF h0 c0 f0; have f1' := keepsF h0 c1 f1; obtain ⟨p0, p1⟩ := cells_two w1 (.int .u32 (a : Int)) (.int .i64 n) 24; replace c0 := keeps hb1 c0'; replace c1 := keeps hb1 c1'; replace f0 := keepsF hb1 c0' f0'; replace f1 := keepsF hb1 c1' f1'; replace p0 := keeps hb1 p0; replace p1 := keeps hb1 p1; replace hb := Below.tr hb (Below.tr h0 hb1); clear hb1 h0 c0' c1' f0' f1'))
        refine bodyPost_ret (v := .tuple #[.agg #[.int .u32 0, .int .i64 0], .int .i64 2]) (by simp [results, Tryd.results24, go_sem, *]) rfl ⟨by rw [HE.out]; rfl, ?_⟩
        go_grown

end Go.Proofs.YtmdfihmmencdoaaDoor.Pfx
