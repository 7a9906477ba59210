/- cmp.Less and 'slices.BinarySearch' over numbers of 32 bits, and asn's Has. -/
import Derived.Test.YtdgfnnjcpoklfaaDoorSetSame
import Derived.WalkLawsBesides
namespace Go.Proofs.YtdgfnnjcpoklfaaDoor.Nums
open Go.RowKit Mem Rise

theorem cmpNaN_any (x : Nat) (w : World) : Calls Tryd.prog 68 #[.int .u32 x] w fun e w' => e = .returned (.bool false) ∧ w = w' := by
  go_enter Tryd.func68, Tryd.ntmps68
  go_wp2
  go_ret
  exact ⟨by simp, rfl⟩
theorem slNaN_any (x : Nat) (w : World) : Calls Tryd.prog 48 #[.int .u32 x] w fun e w' => e = .returned (.bool false) ∧ w = w' := by
  go_enter Tryd.func48, Tryd.ntmps48
  go_wp2
  go_ret
  exact ⟨by simp, rfl⟩
theorem less_any (x y : Nat) (w : World) : Calls Tryd.prog 47 #[.int .u32 x, .int .u32 y] w fun e w' => e = .returned (.bool (decide ((x : Int) < (y : Int)))) ∧ w = w' := by
  have C := Go.Lib.hid cmpNaN_any
  go_enter Tryd.func47, Tryd.ntmps47
  go_wp2_with (go_at_call 68; refine (C.out _ _).mono ?_; rintro e w1 ⟨rfl, rfl⟩)
  go_ret
  exact ⟨by simp, rfl⟩

theorem rising_lt {l : List Nat} (h : rising l) {s t a b : Nat} (hs : l[s]? = some a) (ht : l[t]? = some b) (hst : s < t) : a < b := by
  obtain ⟨h1, e1⟩ := List.getElem?_eq_some_iff.1 hs
  obtain ⟨h2, e2⟩ := List.getElem?_eq_some_iff.1 ht
  have := List.pairwise_iff_getElem.1 h s t h1 h2 hst
  rwa [e1, e2] at this

set_option maxRecDepth 100000 in
set_option maxHeartbeats 1000000 in
theorem search_any (v : Value) (l : List Nat) (n : Nat) (w : World) (hv : U32s w v l) (hr : rising l) (hlen : l.length ≤ 1000000) :
    Calls Tryd.prog 35 #[v, .int .u32 n] w fun e w' => (∃ k : Nat, e = .returned (.tuple #[.int .i64 k, .bool (decide (n ∈ l))])) ∧ w = w' := by
  have HV := Go.Lib.hid hv
  have HR := Go.Lib.hid hr
  have CL := Go.Lib.hid less_any
  have CN := Go.Lib.hid slNaN_any
  obtain ⟨A, c, rfl, hlc, hc, -, -⟩ := hv.open_
  clear hv hr
  go_enter Tryd.func35, Tryd.ntmps35
  go_wp2
  go_loop [7, 8, 9] (fun i j _ => ∃ s t : Nat, s ≤ t ∧ t ≤ l.length ∧ i = .int .i64 s ∧ j = .int .i64 t ∧ Hid (∀ p a, l[p]? = some a → p < s → a < n) ∧ Hid (∀ p a, l[p]? = some a → t ≤ p → n ≤ a)) (fun i j _ => (intOf j).toNat - (intOf i).toNat)
  case atStart => exact ⟨0, l.length, Nat.zero_le _, Nat.le_refl _, rfl, rfl, fun p a _ h => absurd h (by omega), fun p a h1 h2 => by rw [List.getElem?_eq_none h2] at h1; cases h1⟩
  case round =>
    obtain ⟨s, t, hst, htl, rfl, rfl, h1, h2⟩ := hrel
    by_cases hlt : s < t
    · obtain ⟨b, off, x, rfl, hb, hx, hx32, hcell⟩ := (HV.out).at_ (k := (s + t) / 2) (by omega)
      have HX := Go.Lib.hid hx
      clear hx
      have hm1 : s ≤ (s + t) / 2 := by omega
      have hm2 : (s + t) / 2 < t := by omega
      by_cases hxn : x < n
      · have ht : decide ((x : Int) < (n : Int)) = true := by simp; omega
        go_wp2_with (go_at_call 47; refine (CL.out _ _ _).mono ?_; rintro e w1 ⟨rfl, rfl⟩)
        go_round
        case rel => exact ⟨(s + t) / 2 + 1, t, by omega, htl, by go_num, rfl, fun p a hp hlt => by
          rcases Nat.lt_or_ge p ((s + t) / 2) with h | h
          · exact Nat.lt_trans (rising_lt HR.out hp HX.out h) hxn
          · obtain rfl : p = (s + t) / 2 := by omega
            rw [HX.out] at hp
            injection hp with hp
            omega, h2⟩
        case measure => simp [intOf]; omega
      · have ht : decide ((x : Int) < (n : Int)) = false := by simp; omega
        go_wp2_with (go_at_call 47; refine (CL.out _ _ _).mono ?_; rintro e w1 ⟨rfl, rfl⟩)
        go_round
        case rel => exact ⟨s, (s + t) / 2, by omega, by omega, rfl, by go_num, h1, fun p a hp hle => by
          rcases Nat.lt_or_ge ((s + t) / 2) p with h | h
          · have := rising_lt HR.out HX.out hp h
            omega
          · obtain rfl : p = (s + t) / 2 := by omega
            rw [HX.out] at hp
            injection hp with hp
            omega⟩
        case measure => simp [intOf]; omega
    · obtain rfl : s = t := by omega
      by_cases hsl : s < l.length
      · obtain ⟨b, off, x, rfl, hb, hx, hx32, hcell⟩ := (HV.out).at_ (k := s) hsl
        by_cases he : x = n
        · have ht : ((x : Int) == (n : Int)) = true := by simp [he]
          have HM := Go.Lib.hid (show decide (n ∈ l) = true from decide_eq_true (by rw [← he]; exact List.mem_of_getElem? hx))
          clear hx he
          go_wp2_with (go_at_call 48; refine (CN.out _ _).mono ?_; rintro e w1 ⟨rfl, rfl⟩)
          go_ret2
          exact ⟨⟨s, by rw [HM.out]; rfl⟩, rfl⟩
        · have ht : ((x : Int) == (n : Int)) = false := by simp; omega
          have HM := Go.Lib.hid (show decide (n ∈ l) = false from decide_eq_false (fun hm => by
            obtain ⟨p, hp⟩ := List.getElem?_of_mem hm
            have a1 := h1.out p n hp
            have a2 := h2.out s x hx (Nat.le_refl _)
            rcases Nat.lt_or_ge p s with h | h
            · have := a1 h; omega
            · rcases Nat.lt_or_ge s p with h' | h'
              · have := rising_lt HR.out hx hp h'; omega
              · obtain rfl : p = s := by omega
                rw [hx] at hp
                injection hp with hp
                exact he hp))
          clear hx he
          go_wp2_with (go_at_call 48; refine (CN.out _ _).mono ?_; rintro e w1 ⟨rfl, rfl⟩)
          go_ret2
          exact ⟨⟨s, by rw [HM.out]; rfl⟩, rfl⟩
      · have HM := Go.Lib.hid (show decide (n ∈ l) = false from decide_eq_false (fun hm => by
          obtain ⟨p, hp⟩ := List.getElem?_of_mem hm
          have := (List.getElem?_eq_some_iff.1 hp).1
          have := h1.out p n hp (by omega)
          omega))
        go_wp2_with fail
        go_ret2
        exact ⟨⟨s, by rw [HM.out]; rfl⟩, rfl⟩

theorem has_any (v : Value) (l : List Nat) (n : Nat) (w : World) (hv : U32s w v l) (hr : rising l) (hlen : l.length ≤ 1000000) :
    Calls Tryd.prog 13 #[v, .int .u32 n] w fun e w' => e = .returned (.bool (decide (n ∈ l))) ∧ w = w' := by
  have C := Go.Lib.hid (search_any v l n w hv hr hlen)
  generalize decide (n ∈ l) = r at C ⊢
  clear hv hr
  go_enter Tryd.func13, Tryd.ntmps13
  go_wp2_with (go_at_call 35; refine (C.out).mono ?_; rintro e w1 ⟨⟨k, rfl⟩, rfl⟩)
  go_ret
  exact ⟨rfl, rfl⟩
end Go.Proofs.YtdgfnnjcpoklfaaDoor.Nums
