/- A copy of bytes; a new reader; the law's Bytes; the reference's Num and Big. -/
import Derived.Test.YtgeekckoepnccaaOctNum
import Derived.Lib.SliceRun
namespace Go.Proofs.Ytgeekckoepnccaa.Oct
open Go.RowKit Mem Ahead

/-- What a copy gives: bytes in memory of its own. -/
def Gives8 (l : List Nat) (w : World) (e : Ending) (w' : World) : Prop :=
  ∃ A c, e = .returned (.slice A l.length c) ∧ w'.ownsRow w.heap.size 5 1 (.slice A l.length c) l.length (cells8 l) ∧ Below w.heap.size w w'
theorem own_nil8 (w : World) (base : Nat) : w.ownsRow base 5 1 (.slice none 0 0) 0 (cells8 []) := ⟨rfl, .inl ⟨rfl, rfl⟩⟩
set_option maxHeartbeats 1000000 in
theorem clone_any (v : Value) (l : List Nat) (w : World) (hv : U8s w v l) (hl : l.length ≤ 1000000) : Calls Try.prog 20 #[v] w (Gives8 l w) := by
  obtain ⟨i0, E0⟩ := elem8
  obtain ⟨A, c, rfl, hlc, hc⟩ := hv.form
  have HV := Go.Lib.hid hv
  have h0 : (w.alloc (.cells #[] 5)).ownsRow w.heap.size 5 1 (.slice (some ⟨w.heap.size, 0, none⟩) 0 0) 0 (cells8 []) := own_blk (Nat.le_refl _) (heap_alloc_new _ _)
  have H0 := Go.Lib.hid h0
  have HR := Go.Lib.hid ((hv.keep ((Below.refl _ w).alloc (Nat.le_refl _) (.cells #[] 5))).1)
  have HB := Go.Lib.hid (Below.refl w.heap.size w)
  have q8 : ∀ (W : World) (a : Option Addr) (n c n' c' : Nat), (binOp .eql 25 (.slice a n c) (.slice none n' c')).run Try.prog W = .ok (.bool a.isNone) W := fun W a n c n' c' => Lib.run_eql_slice_nil W _ _ a n c n' c' Try.underlying25
  clear hv h0
  cases A with
  | none =>
    obtain rfl : l = [] := by
      obtain ⟨⟨_, _, _, e, _, _, hr⟩, _⟩ := HV.out
      injection e with e1 e2 e3
      subst e1
      rcases Nat.eq_zero_or_pos l.length with h | h
      · exact List.eq_nil_of_length_eq_zero h
      · obtain ⟨_, _, h0, _⟩ := hr h
        cases h0
    go_enter Try.func20, Try.ntmps20
    go_wp2
    go_ret
    exact ⟨none, 0, rfl, own_nil8 _ _, HB.out⟩
  | some ad =>
    go_enter Try.func20, Try.ntmps20
    go_wp2_with (at_builtin; refine wpList_append_row rfl (.tmp 5) (.tmp 6) rfl E0 w.heap.size _ 0 _ rfl H0.out _ l.length (cells8 l) rfl HR.out (ones8 _) (by unfold maxLen; omega) (by omega) (by simp) (l.length) (Nat.zero_add _) ?_; intro A1 c1 w1 hown1 hg1 hat1 hb1; have HO := Go.Lib.hid hown1; have HB1 := Go.Lib.hid hb1; clear hown1 hg1 hat1 hb1)
    go_ret
    refine ⟨_, _, rfl, HO.out, ?_⟩
    exact ((Below.refl _ w).alloc (Nat.le_refl _) _).trans HB1.out

/-- What New gives. -/
def NewF (l : List Nat) (w : World) (e : Ending) (w' : World) : Prop :=
  ∃ b, e = .returned (.pointer (some ⟨b, 0, none⟩)) ∧ R w' w.heap.size w'.heap.size (.pointer (some ⟨b, 0, none⟩)) l false (fun k => k = b) ∧ Below w.heap.size w w'
theorem new_of {l : List Nat} {w w1 : World} {A : Option Addr} {c : Nat} (hl : Small l) (ho : w1.ownsRow w.heap.size 5 1 (.slice A l.length c) l.length (cells8 l)) (hb : Below w.heap.size w w1) :
    NewF l w (.returned (.pointer (some ⟨w1.heap.size, 0, none⟩))) (w1.alloc (.cells #[.slice A l.length c, .bool false] 79)) := by
  have hb1 : Below w1.heap.size w1 (w1.alloc (.cells #[.slice A l.length c, .bool false] 79)) := (Below.refl _ w1).alloc (Nat.le_refl _) _
  have hsz : (w1.alloc (.cells #[.slice A l.length c, .bool false] 79)).heap.size = w1.heap.size + 1 := by simp
  refine ⟨w1.heap.size, rfl, .inr ⟨w1.heap.size, _, rfl, hb.size, by rw [hsz]; omega, Nat.le_refl _, heap_alloc_new _ _, (U8s.of_own ho hl).keep hb1, fun g hg => ?_, (fun h => by cases h), rfl⟩, hb.trans (hb1.mono hb.size)⟩
  have := (ho.lt g hg).2
  rw [hsz]
  exact ⟨by omega, by omega⟩
theorem new_any (v : Value) (l : List Nat) (w : World) (hv : U8s w v l) (hl : l.length ≤ 1000000) : Calls Try.prog 31 #[v] w (NewF l w) := by
  have CC := Go.Lib.hid (clone_any v l w hv hl)
  have HS := Go.Lib.hid hv.2
  clear hv
  go_enter Try.func31, Try.ntmps31
  go_wp2_with (go_at_call 20; refine CC.out.mono ?_; rintro e w1 ⟨A, c, rfl, ho, hb⟩; have H1 := Go.Lib.hid (new_of HS.out ho hb); clear ho hb)
  go_ret
  exact H1.out

set_option maxHeartbeats 1000000 in
theorem bytes_any (v : Value) (l : List Nat) (m : Nat) (w : World) (hv : U8s w v l) (hm : m ≤ 1000000) : Calls Try.prog 8 #[v, .int .i64 m] w (Gives8 (l.take m) w) := by
  obtain ⟨i0, E0⟩ := elem8
  obtain ⟨A, c, rfl, hlc, hc⟩ := hv.form
  have HV := Go.Lib.hid hv
  have h0 : (w.alloc (.cells #[] 5)).ownsRow w.heap.size 5 1 (.slice (some ⟨w.heap.size, 0, none⟩) 0 0) 0 (cells8 []) := own_blk (Nat.le_refl _) (heap_alloc_new _ _)
  have H0 := Go.Lib.hid h0
  have hb : Below w.heap.size w (w.alloc (.cells #[] 5)) := (Below.refl _ w).alloc (Nat.le_refl _) _
  have HBB := Go.Lib.hid hb
  by_cases hlt : m < l.length
  · have z0 : (0 : Int) ≤ (m : Int) := by omega
    have z1 : (m : Int) < (l.length : Int) := by omega
    have z2 : (m : Int) ≤ (c : Int) := by omega
    have e1 : (l.take m).length = m := by rw [List.length_take]; omega
    have hp := ((hv.keep hb).prefix_ (k := m) (d := c) (by omega) (by omega) (by unfold maxLen; omega)).1
    rw [e1] at hp
    have HP := Go.Lib.hid hp
    have HE := Go.Lib.hid e1
    clear hv h0 hb hp e1
    go_enter Try.func8, Try.ntmps8
    go_wp2_with (at_builtin; refine wpList_append_row rfl (.tmp 12) (.tmp 13) rfl E0 w.heap.size _ 0 _ rfl H0.out _ m (cells8 (l.take m)) rfl HP.out (ones8 _) (by unfold maxLen; omega) (by omega) (by simp) (m) (Nat.zero_add _) ?_; intro A1 c1 w1 hown1 hg1 hat1 hb1; have HO := Go.Lib.hid hown1; have HB1 := Go.Lib.hid hb1; clear hown1 hg1 hat1 hb1)
    go_ret
    refine ⟨_, _, by rw [HE.out]; rfl, by rw [HE.out]; exact HO.out, HBB.out.trans HB1.out⟩
  · have z1 : (l.length : Int) ≤ (m : Int) := by omega
    have HE := Go.Lib.hid (List.take_of_length_le (show l.length ≤ m by omega))
    have HP := Go.Lib.hid (hv.keep hb).1
    clear hv h0 hb
    go_enter Try.func8, Try.ntmps8
    go_wp2_with (at_builtin; refine wpList_append_row rfl (.tmp 12) (.tmp 13) rfl E0 w.heap.size _ 0 _ rfl H0.out _ l.length (cells8 l) rfl HP.out (ones8 _) (by unfold maxLen; omega) (by omega) (by simp) (l.length) (Nat.zero_add _) ?_; intro A1 c1 w1 hown1 hg1 hat1 hb1; have HO := Go.Lib.hid hown1; have HB1 := Go.Lib.hid hb1; clear hown1 hg1 hat1 hb1)
    go_ret
    refine ⟨_, _, by rw [HE.out]; rfl, by rw [HE.out]; exact HO.out, HBB.out.trans HB1.out⟩

theorem num_any (v : Value) (l : List Nat) (w : World) (hv : U8s w v l) (hl : l.length ≤ 4) : Calls Try.prog 22 #[v] w (Tells (.int .u32 (val l)) w) := by
  obtain ⟨A, c, rfl, hlc, hc⟩ := hv.form
  have HU := Go.Lib.hid hv
  clear hv
  go_enter Try.func22, Try.ntmps22
  go_wp2
  go_loopw [3, 4] (fun v3 v4 wx => ∃ j : Nat, j ≤ l.length ∧ v4 = .int .i64 j ∧ v3 = .int .u32 (val (l.take j)) ∧ wx = w) (fun _ v4 _ => l.length - (intOf v4).toNat)
  case atStart => exact ⟨0, Nat.zero_le _, rfl, rfl, rfl⟩
  case round =>
    obtain ⟨j, hj, rfl, rfl, rfl⟩ := hrel
    by_cases hlt : j < l.length
    · obtain ⟨b, off, x, rfl, hbl, hx, hx2, hc⟩ := (HU.out).at_ hlt
      have z0 : (0 : Int) ≤ (j : Int) := by omega
      have z1 : (j : Int) < (l.length : Int) := by omega
      have hv := val_lt j HU.out.2
      have hv2 := Nat.lt_of_lt_of_le hv (pow_le (show j ≤ 3 by omega))
      have HV := Go.Lib.hid (val_take hx)
      clear hv hx
      generalize val (l.take j) = V at hv2 HV ⊢
      go_wp2
      go_roundw
      case rel => exact ⟨j + 1, hlt, by go_num, by rw [HV.out]; go_num, trivial⟩
      case measure => simp [intOf]; omega
    · obtain rfl : j = l.length := by omega
      go_wp2
      go_ret
      rw [List.take_length]
      exact ⟨rfl, Below.refl _ _⟩
end Go.Proofs.Ytgeekckoepnccaa.Oct
