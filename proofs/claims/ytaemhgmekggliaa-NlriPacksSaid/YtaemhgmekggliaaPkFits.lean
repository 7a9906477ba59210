/- The program's Fits; what it tells is one number. -/
import Derived.Test.YtaemhgmekggliaaNlriSize
import Derived.Test.YtaemhgmekggliaaPkMem
namespace Go.Proofs.Ytaemhgmekggliaa.PR
open Go.RowKit Mem Pfx Oct

/-- How many bytes prefixes have together. -/
def sumN (l : List Pf) : Nat := (l.map sizeN).sum
theorem sumN_take {l : List Pf} {j : Nat} {p : Pf} (h : l[j]? = some p) : sumN (l.take (j + 1)) = sumN (l.take j) + sizeN p := by
  unfold sumN
  rw [List.take_add_one, h]
  simp
theorem sumN_le (l : List Pf) : sumN l ≤ 5 * l.length := by
  unfold sumN
  induction l with
  | nil => simp
  | cons a l ih =>
    have := sizeN_le a
    simp only [List.map_cons, List.sum_cons, List.length_cons]
    omega
theorem sumN_mono (l : List Pf) {i j : Nat} (h : i ≤ j) : sumN (l.take i) ≤ sumN (l.take j) := by
  obtain ⟨k, rfl⟩ : ∃ k, j = i + k := ⟨j - i, by omega⟩
  unfold sumN
  rw [List.take_add, List.map_append, List.sum_append]
  omega
/-- n is how many fit. -/
def FitsN (l : List Pf) (room : Int) (n : Nat) : Prop := n ≤ l.length ∧ (∀ i, i < n → (sumN (l.take (i + 1)) : Int) ≤ room) ∧ (n < l.length → room < (sumN (l.take (n + 1)) : Int))
theorem fits_one {l : List Pf} {room : Int} {n m : Nat} (h : FitsN l room n) (k : FitsN l room m) : n = m := by
  obtain ⟨h1, h2, h3⟩ := h
  obtain ⟨k1, k2, k3⟩ := k
  rcases Nat.lt_trichotomy n m with e | e | e
  · have a := k2 n e
    have b := h3 (by omega)
    omega
  · exact e
  · have a := h2 m e
    have b := k3 (by omega)
    omega
/-- What Fits tells. -/
def FitF (l : List Pf) (room : Int) (w : World) (e : Ending) (w' : World) : Prop := ∃ n : Nat, e = .returned (.int .i64 n) ∧ FitsN l room n ∧ Below w.heap.size w w'
set_option maxRecDepth 100000 in
set_option maxHeartbeats 2000000 in
theorem fits_any (v : Value) (l : List Pf) (room : Int) (w : World) (hv : Pfxs w v l) (hl : l.length ≤ 100000) : Calls Try.prog 17 #[v, .int .i64 room] w (FitF l room w) := by
  have HV := Go.Lib.hid hv
  obtain ⟨A, c, rfl, hlc, hc⟩ := hv.form
  have CS := Go.Lib.hid size_any
  clear hv
  go_enter Try.func17, Try.ntmps17
  go_wp2
  go_loopw [5, 10] (fun v5 v10 wx => ∃ j s : Nat, j ≤ l.length ∧ s ≤ 5 * j ∧ v10 = .int .i64 j ∧ v5 = .int .i64 s ∧ Hid (s = sumN (l.take j) ∧ ∀ i, i < j → (sumN (l.take (i + 1)) : Int) ≤ room) ∧ Hid (Below w.heap.size w wx)) (fun _ v10 _ => l.length - (intOf v10).toNat)
  case atStart => exact ⟨0, 0, Nat.zero_le _, by omega, rfl, rfl, Go.Lib.hid ⟨rfl, fun i hi => absurd hi (Nat.not_lt_zero _)⟩, Go.Lib.hid (Below.refl _ _)⟩
  case round =>
    obtain ⟨j, s, hj, hs5, rfl, rfl, hs, hb⟩ := hrel
    by_cases hlt : j < l.length
    · obtain ⟨p, hp⟩ : ∃ p, l[j]? = some p := ⟨_, List.getElem?_eq_getElem hlt⟩
      obtain ⟨b, off, rfl, hbl, k0, k1⟩ := (HV.out.keep hb.out).at_ hp
      have hok := (HV.out).2 p (List.mem_of_getElem? hp)
      have z0 : (0 : Int) ≤ (j : Int) := by omega
      have z1 : (j : Int) < (l.length : Int) := by omega
      have HT := Go.Lib.hid (sumN_take hp)
      obtain ⟨z, hz⟩ : ∃ z, z = sizeN p := ⟨_, rfl⟩
      have CSP := Go.Lib.hid (fun (W : World) => show Calls Try.prog 8 #[.agg #[.int .u32 p.a, .int .i64 p.n]] W (Tells (.int .i64 z) W) from by rw [hz]; exact CS.out p W hok.1)
      have hz5 : z ≤ 5 := hz ▸ sizeN_le p
      have wz : IntKind.i64.wrap ((s : Int) + (z : Int)) = ((s + z : Nat) : Int) := by rw [IntKind.wrap_i64]; omega
      have HSZ := Go.Lib.hid (show s + z = sumN (l.take (j + 1)) by rw [HT.out, ← hs.out.1, hz])
      have HAL := Go.Lib.hid (below_new wr (.cells #[.int .u32 (p.a : Int), .int .i64 p.n] 31))
      obtain ⟨a0, a1⟩ := cells_two wr (.int .u32 (p.a : Int)) (.int .i64 p.n) 31
      have hsz5 : s + z ≤ 5 * (j + 1) := by omega
      clear hp hok hbl hz
      generalize s + z = t at wz HSZ hsz5
      by_cases hr : room < (t : Int)
      · go_wp2_with (go_at_call 8; refine (CSP.out _).mono ?_; rintro e w1 ⟨rfl, hb1⟩; have B1 := Go.Lib.hid (hb.out.trans ((HAL.out.trans (hb1.mono HAL.out.size)).mono hb.out.size)); clear hb1 k0 k1 a0 a1)
        go_ret
        exact ⟨j, rfl, ⟨hj, hs.out.2, fun _ => by rw [← HSZ.out]; exact hr⟩, B1.out⟩
      · have hr2 : decide (room < (t : Int)) = false := decide_eq_false hr
        go_wp2_with (go_at_call 8; refine (CSP.out _).mono ?_; rintro e w1 ⟨rfl, hb1⟩; have B1 := Go.Lib.hid (hb.out.trans ((HAL.out.trans (hb1.mono HAL.out.size)).mono hb.out.size)); clear hb1 k0 k1 a0 a1)
        go_roundw
        case rel =>
          refine ⟨j + 1, t, hlt, hsz5, by go_num, rfl, Go.Lib.hid ⟨HSZ.out, fun i hi => ?_⟩, B1⟩
          by_cases e : i = j
          · subst e; rw [← HSZ.out]; omega
          · exact hs.out.2 i (by omega)
        case measure => simp [intOf]; omega
    · have z1 : decide ((j : Int) < (l.length : Int)) = false := decide_eq_false (by omega)
      obtain rfl : j = l.length := by omega
      go_wp2
      go_ret
      exact ⟨l.length, rfl, ⟨Nat.le_refl _, hs.out.2, fun h => absurd h (Nat.lt_irrefl _)⟩, hb.out⟩
end Go.Proofs.Ytaemhgmekggliaa.PR
