/- asn's pair behind Within: till a number of the first is not in the second. -/
import Derived.Test.YtjmakafpgfefnaaDoorPair
namespace Go.Proofs.YtjmakafpgfefnaaDoor.Nums
open Go.RowKit Mem Rise

/-- What stands in memory: whether all were there so far. -/
def Flag (W : World) (Ba : Nat) (r : Bool) : Prop := W.heap[Ba]? = some (.cells #[.bool r] 4 (0, 0))
theorem flag_drewN {W : World} {Ba : Nat} {r : Bool} (h : Flag W Ba r) (n : Nat) : Flag (W.drewN n) Ba r := h
def Flagged (Ba : Nat) (r : Bool) (w : World) (e : Ending) (w' : World) : Prop := e = .returned (.bool r) ∧ Flag w' Ba r ∧ Below Ba w w'
def Walked2 (Ba : Nat) (r : Bool) (w : World) (e : Ending) (w' : World) : Prop := e = .returned (.tuple #[]) ∧ Flag w' Ba r ∧ Below Ba w w'

theorem see2_any (n : Nat) (x y : Bool) (Ba : Nat) (W : World) (h : Flag W Ba true) :
    Calls Tryd.prog 35 #[.int .u32 n, .bool x, .bool y, .pointer (some ⟨Ba, 0, none⟩)] W (Flagged Ba (y || !x) W) := by
  have HH := Go.Lib.hid h
  have c1 := cell_of_one h
  have c2 := free_of_one h
  have hlt := lt_of_block h
  clear h
  cases x <;> cases y
  all_goals
    simp only [Bool.or_false, Bool.or_true, Bool.not_true, Bool.not_false]
    go_enter Tryd.func35, Tryd.ntmps35
    go_wp2
    go_ret
    exact ⟨rfl, one_setCell HH.out, (Below.refl Ba W).setCell (p := ⟨Ba, 0, none⟩) (Nat.le_refl Ba) _⟩

set_option maxRecDepth 100000 in
set_option maxHeartbeats 8000000 in
theorem pair2_any (va vb : Value) (a b : List Nat) (Ba : Nat) (W0 w : World) (ha : U32s W0 va a) (hb : U32s W0 vb b) (hW : Below W0.heap.size W0 w) (hBt : W0.heap.size ≤ Ba)
    (hK : Flag w Ba true) (hlen : a.length + b.length ≤ 5000) :
    Calls Tryd.prog 34 #[va, vb, .func (.func 35) #[] #[.pointer (some ⟨Ba, 0, none⟩)]] w (Walked2 Ba (allIn a b) w) := by
  have CS := Go.Lib.hid see2_any
  have HK := Go.Lib.hid hK
  have HA := Go.Lib.hid ha
  have HB := Go.Lib.hid hb
  clear hK ha hb
  go_enter Tryd.func34, Tryd.ntmps34
  go_wp2
  go_loopw [0, 1, 6, 7, 8] (fun va vb _ _ _ wr => ∃ p q, U32s W0 va p ∧ U32s W0 vb q ∧ Flag wr Ba true ∧ Hid (allIn a b = allIn p q) ∧ p.length + q.length ≤ 5000 ∧ Below W0.heap.size W0 wr ∧ Below Ba w wr) (fun va vb _ _ _ _ => match va, vb with | .slice _ n _, .slice _ m _ => n + m | _, _ => 0)
  case atStart => exact ⟨a, b, HA.out, HB.out, HK.out, rfl, hlen, hW, Below.refl _ _⟩
  case round =>
    obtain ⟨p, q, hp, hq, hk, he, hl, hw, hbw⟩ := hrel
    have HP := Go.Lib.hid hp
    have HQ := Go.Lib.hid hq
    have HKk := Go.Lib.hid hk
    cases p with
    | nil =>
      cases q with
      | nil =>
        obtain ⟨A, c, rfl⟩ := hp.empty
        obtain ⟨B, d, rfl⟩ := hq.empty
        clear hp hq
        clear hk
        go_wp2
        refine bodyPost_end (results_none rfl _ _ _) rfl ?_
        exact ⟨rfl, by rw [he.out]; exact HKk.out, hbw⟩
      | cons y q =>
        obtain ⟨A, c, rfl⟩ := hp.empty
        obtain ⟨B, d, rfl, -, -, -⟩ := hq.open_
        obtain ⟨b1, off1, rfl, hb1, hy, hcell10, hm, hd1, hd, hq2⟩ := hq.head
        have hcell1 := (hw.cell (p := ⟨b1, off1, none⟩) hb1).trans hcell10
        have k1 : (0 : Int) < (q.length : Int) + 1 := by omega
        have k3 : ((q.length : Int) + 1 == 0) = false := by simp; omega
        clear hp hq
        have NX : next [] (y :: q) = some ((y, false, true), [], q) := rfl
        have KE := allIn_step NX
        have HE := Go.Lib.hid (he.out.trans KE)
        have C0 : ∀ W : World, Flag W Ba true → Calls Tryd.prog 35 #[.int .u32 y, .bool false, .bool true, .pointer (some ⟨Ba, 0, none⟩)] W (Flagged Ba true W) := CS.out y false true Ba
        have C := Go.Lib.hid C0
        clear NX KE hk C0
        go_wp2
        go_quiet (fail)
        go_wp2
        go_quiet (fail)
        go_wp2
        go_quiet (fail)
        go_wp2_with (go_at_call 35; refine (C.out _ (flag_drewN HKk.out _)).mono ?_; rintro e w1 ⟨rfl, hk1, hb2⟩)
        go_roundw
        case rel => exact ⟨[], q, HP.out, hq2, hk1, by rw [HE.out]; rfl, by simp at hl ⊢; omega, hw.trans ((of_drewN hb2).mono (by omega)), hbw.trans ((of_drewN hb2).mono (by omega))⟩
        case measure => simp; try omega
    | cons x p =>
      cases q with
      | nil =>
        obtain ⟨A, c, rfl, -, -, -⟩ := hp.open_
        obtain ⟨b0, off, rfl, hb0, hx, hcell0, hn, hc1, hc, hp2⟩ := hp.head
        have hcell := (hw.cell (p := ⟨b0, off, none⟩) hb0).trans hcell0
        have k0 : (0 : Int) < (p.length : Int) + 1 := by omega
        have k2 : ((p.length : Int) + 1 == 0) = false := by simp; omega
        obtain ⟨B, d, rfl⟩ := hq.empty
        clear hp hq
        have NX : next (x :: p) [] = some ((x, true, false), p, []) := rfl
        have KE := allIn_step NX
        have HE := Go.Lib.hid (he.out.trans KE)
        have C0 : ∀ W : World, Flag W Ba true → Calls Tryd.prog 35 #[.int .u32 x, .bool true, .bool false, .pointer (some ⟨Ba, 0, none⟩)] W (Flagged Ba false W) := CS.out x true false Ba
        have C := Go.Lib.hid C0
        clear NX KE hk C0
        go_wp2
        go_quiet (fail)
        go_wp2
        go_quiet (fail)
        go_wp2
        go_quiet (fail)
        go_wp2_with (go_at_call 35; refine (C.out _ (flag_drewN HKk.out _)).mono ?_; rintro e w1 ⟨rfl, hk1, hb2⟩)
        all_goals refine bodyPost_ret (results_none rfl _ _ _) rfl ?_
        all_goals exact ⟨rfl, by rw [HE.out]; exact hk1, hbw.trans ((of_drewN hb2).mono (by omega))⟩
      | cons y q =>
        obtain ⟨A, c, rfl, -, -, -⟩ := hp.open_
        obtain ⟨b0, off, rfl, hb0, hx, hcell0, hn, hc1, hc, hp2⟩ := hp.head
        have hcell := (hw.cell (p := ⟨b0, off, none⟩) hb0).trans hcell0
        have k0 : (0 : Int) < (p.length : Int) + 1 := by omega
        have k2 : ((p.length : Int) + 1 == 0) = false := by simp; omega
        obtain ⟨B, d, rfl, -, -, -⟩ := hq.open_
        obtain ⟨b1, off1, rfl, hb1, hy, hcell10, hm, hd1, hd, hq2⟩ := hq.head
        have hcell1 := (hw.cell (p := ⟨b1, off1, none⟩) hb1).trans hcell10
        have k1 : (0 : Int) < (q.length : Int) + 1 := by omega
        have k3 : ((q.length : Int) + 1 == 0) = false := by simp; omega
        clear hp hq
        by_cases hxy : x < y
        · skip
          have t1 : decide (x ≤ y) = true := by simp; omega
          have t2 : decide (y ≤ x) = false := by simp; omega
          have NX : next (x :: p) (y :: q) = some ((x, true, false), p, (y :: q)) := by simp only [next]; rw [if_pos hxy]
          have KE := allIn_step NX
          have HE := Go.Lib.hid (he.out.trans KE)
          have C0 : ∀ W : World, Flag W Ba true → Calls Tryd.prog 35 #[.int .u32 x, .bool true, .bool false, .pointer (some ⟨Ba, 0, none⟩)] W (Flagged Ba false W) := CS.out x true false Ba
          have C := Go.Lib.hid C0
          clear NX KE hk C0
          go_wp2
          go_quiet (fail)
          go_wp2
          go_quiet (fail)
          go_wp2
          go_quiet (fail)
          go_wp2_with (go_at_call 35; refine (C.out _ (flag_drewN HKk.out _)).mono ?_; rintro e w1 ⟨rfl, hk1, hb2⟩)
          all_goals refine bodyPost_ret (results_none rfl _ _ _) rfl ?_
          all_goals exact ⟨rfl, by rw [HE.out]; exact hk1, hbw.trans ((of_drewN hb2).mono (by omega))⟩
        · by_cases hyx : y < x
          · skip
            have t1 : decide (x ≤ y) = false := by simp; omega
            have t2 : decide (y ≤ x) = true := by simp; omega
            have NX : next (x :: p) (y :: q) = some ((y, false, true), (x :: p), q) := by simp only [next]; rw [if_neg hxy, if_pos hyx]
            have KE := allIn_step NX
            have HE := Go.Lib.hid (he.out.trans KE)
            have C0 : ∀ W : World, Flag W Ba true → Calls Tryd.prog 35 #[.int .u32 y, .bool false, .bool true, .pointer (some ⟨Ba, 0, none⟩)] W (Flagged Ba true W) := CS.out y false true Ba
            have C := Go.Lib.hid C0
            clear NX KE hk C0
            go_wp2
            go_quiet (fail)
            go_wp2
            go_quiet (fail)
            go_wp2
            go_quiet (fail)
            go_wp2_with (go_at_call 35; refine (C.out _ (flag_drewN HKk.out _)).mono ?_; rintro e w1 ⟨rfl, hk1, hb2⟩)
            go_roundw
            case rel => exact ⟨(x :: p), q, HP.out, hq2, hk1, by rw [HE.out]; rfl, by simp at hl ⊢; omega, hw.trans ((of_drewN hb2).mono (by omega)), hbw.trans ((of_drewN hb2).mono (by omega))⟩
            case measure => simp; try omega
          · obtain rfl : x = y := by omega
            by_cases hc0 : c = 1
            · subst hc0
              rw [if_pos rfl] at hp2
              obtain rfl : p = [] := List.eq_nil_of_length_eq_zero (by omega)
              skip
              have t1 : decide (x ≤ x) = true := by simp
              have NX : next [x] (x :: q) = some ((x, true, true), [], q) := by simp only [next]; rw [if_neg (Nat.lt_irrefl _), if_neg (Nat.lt_irrefl _)]
              have KE := allIn_step NX
              have HE := Go.Lib.hid (he.out.trans KE)
              have C0 : ∀ W : World, Flag W Ba true → Calls Tryd.prog 35 #[.int .u32 x, .bool true, .bool true, .pointer (some ⟨Ba, 0, none⟩)] W (Flagged Ba true W) := CS.out x true true Ba
              have C := Go.Lib.hid C0
              clear NX KE hk C0
              go_wp2
              go_quiet (fail)
              go_wp2
              go_quiet (fail)
              go_wp2
              go_quiet (fail)
              go_wp2
              go_quiet (fail)
              go_wp2_with (go_at_call 35; refine (C.out _ (flag_drewN HKk.out _)).mono ?_; rintro e w1 ⟨rfl, hk1, hb2⟩)
              go_roundw
              case rel => exact ⟨[], q, hp2, hq2, hk1, by rw [HE.out]; rfl, by simp at hl ⊢; omega, hw.trans ((of_drewN hb2).mono (by omega)), hbw.trans ((of_drewN hb2).mono (by omega))⟩
              case measure => simp; try omega
            · rw [if_neg hc0] at hp2
              skip
              have t1 : decide (x ≤ x) = true := by simp
              have NX : next (x :: p) (x :: q) = some ((x, true, true), p, q) := by simp only [next]; rw [if_neg (Nat.lt_irrefl _), if_neg (Nat.lt_irrefl _)]
              have KE := allIn_step NX
              have HE := Go.Lib.hid (he.out.trans KE)
              have C0 : ∀ W : World, Flag W Ba true → Calls Tryd.prog 35 #[.int .u32 x, .bool true, .bool true, .pointer (some ⟨Ba, 0, none⟩)] W (Flagged Ba true W) := CS.out x true true Ba
              have C := Go.Lib.hid C0
              clear NX KE hk C0
              go_wp2
              go_quiet (fail)
              go_wp2
              go_quiet (fail)
              go_wp2
              go_quiet (fail)
              go_wp2
              go_quiet (fail)
              go_wp2_with (go_at_call 35; refine (C.out _ (flag_drewN HKk.out _)).mono ?_; rintro e w1 ⟨rfl, hk1, hb2⟩)
              go_roundw
              case rel => exact ⟨p, q, hp2, hq2, hk1, by rw [HE.out]; rfl, by simp at hl ⊢; omega, hw.trans ((of_drewN hb2).mono (by omega)), hbw.trans ((of_drewN hb2).mono (by omega))⟩
              case measure => simp; try omega
end Go.Proofs.YtjmakafpgfefnaaDoor.Nums
