/- asn's pair: two sets walked side by side, what is wanted being kept. -/
import Derived.Test.YtdgfnnjcpoklfaaDoorClosures
import Derived.Test.YtdgfnnjcpoklfaaDoorEvents
namespace Go.Proofs.YtdgfnnjcpoklfaaDoor.Nums
open Go.RowKit Mem Rise

def Walked (g : FuncId) (Bt Bk : Nat) (K : List Nat) (w : World) (e : Ending) (w' : World) : Prop := e = .returned (.tuple #[]) ∧ Keeps w' g Bt Bk K ∧ Below Bt w w'
theorem keeps_drewN {W : World} {g : FuncId} {Bt Bk : Nat} {K : List Nat} (h : Keeps W g Bt Bk K) (n : Nat) : Keeps (W.drewN n) g Bt Bk K := h
theorem of_drewN {B n : Nat} {w w' : World} (h : Below B (w.drewN n) w') : Below B w w' := ⟨h.os, h.tape, h.output, h.size, h.block⟩

set_option maxRecDepth 100000 in
set_option maxHeartbeats 8000000 in
theorem pair_any (g : FuncId) (f : Bool → Bool → Bool) (hg : Taker g f) (va vb : Value) (a b : List Nat) (Bt Bk : Nat) (K0 : List Nat) (W0 w : World) (ha : U32s W0 va a) (hb : U32s W0 vb b) (hW : Below W0.heap.size W0 w) (hBt : W0.heap.size ≤ Bt)
    (hK : Keeps w g Bt Bk K0) (hlen : K0.length + a.length + b.length ≤ 5000) :
    Calls Tryd.prog 69 #[va, vb, .func (.func 70) #[] #[.pointer (some ⟨Bt, 0, none⟩), .pointer (some ⟨Bk, 0, none⟩)]] w (Walked g Bt Bk (K0 ++ kept f a b) w) := by
  have CS := Go.Lib.hid (see_any g f hg)
  have HK := Go.Lib.hid hK
  have HA := Go.Lib.hid ha
  have HB := Go.Lib.hid hb
  clear hK ha hb
  go_enter Tryd.func69, Tryd.ntmps69
  go_wp2
  go_loopw [0, 1, 6, 7, 8] (fun va vb _ _ _ wr => ∃ p q K, U32s W0 va p ∧ U32s W0 vb q ∧ Keeps wr g Bt Bk K ∧ Hid (K ++ kept f p q = K0 ++ kept f a b) ∧ K.length + p.length + q.length ≤ 5000 ∧ Below W0.heap.size W0 wr ∧ Below Bt w wr) (fun va vb _ _ _ _ => match va, vb with | .slice _ n _, .slice _ m _ => n + m | _, _ => 0)
  case atStart => exact ⟨a, b, K0, HA.out, HB.out, HK.out, rfl, hlen, hW, Below.refl _ _⟩
  case round =>
    obtain ⟨p, q, K, hp, hq, hk, he, hl, hw, hbw⟩ := hrel
    have HP := Go.Lib.hid hp
    have HQ := Go.Lib.hid hq
    have HKk := Go.Lib.hid hk
    cases p with
    | nil =>
      cases q with
      | nil =>
        obtain ⟨A, c, rfl⟩ := hp.empty
        obtain ⟨B, d, rfl⟩ := hq.empty
        clear hp hq
        clear hk
        go_wp2
        refine bodyPost_end (results_none rfl _ _ _) rfl ?_
        exact ⟨rfl, by rw [← he.out]; simpa [kept_nil] using HKk.out, hbw⟩
      | cons y q =>
        obtain ⟨A, c, rfl⟩ := hp.empty
        obtain ⟨B, d, rfl, -, -, -⟩ := hq.open_
        obtain ⟨b1, off1, rfl, hb1, hy, hcell10, hm, hd1, hd, hq2⟩ := hq.head
        have hcell1 := (hw.cell (p := ⟨b1, off1, none⟩) hb1).trans hcell10
        have k1 : (0 : Int) < (q.length : Int) + 1 := by omega
        have k3 : ((q.length : Int) + 1 == 0) = false := by simp; omega
        clear hp hq
        have NX : next [] (y :: q) = some ((y, false, true), [], q) := rfl
        have KE := kept_step (f := f) NX K
        have HE := Go.Lib.hid (KE.trans he.out)
        have C := Go.Lib.hid (CS.out y false true Bt Bk K)
        clear NX KE hk
        have hl2 : (if f false true then K ++ [y] else K).length ≤ K.length + 1 := by split <;> simp
        have hlk : K.length ≤ 5000 := by simp at hl; omega
        generalize (if f false true = true then K ++ [y] else K) = K2 at HE C hl2
        go_wp2
        go_quiet (fail)
        go_wp2
        go_quiet (fail)
        go_wp2
        go_quiet (fail)
        go_wp2_with (go_at_call 70; refine (C.out _ (keeps_drewN HKk.out _) hlk).mono ?_; rintro e w1 ⟨rfl, hk1, hb2⟩)
        go_roundw
        case rel => exact ⟨[], q, K2, HP.out, hq2, hk1, HE, by simp at hl ⊢; omega, hw.trans ((of_drewN hb2).mono (by omega)), hbw.trans ((of_drewN hb2).mono (by omega))⟩
        case measure => simp; try omega
    | cons x p =>
      cases q with
      | nil =>
        obtain ⟨A, c, rfl, -, -, -⟩ := hp.open_
        obtain ⟨b0, off, rfl, hb0, hx, hcell0, hn, hc1, hc, hp2⟩ := hp.head
        have hcell := (hw.cell (p := ⟨b0, off, none⟩) hb0).trans hcell0
        have k0 : (0 : Int) < (p.length : Int) + 1 := by omega
        have k2 : ((p.length : Int) + 1 == 0) = false := by simp; omega
        obtain ⟨B, d, rfl⟩ := hq.empty
        clear hp hq
        have NX : next (x :: p) [] = some ((x, true, false), p, []) := rfl
        have KE := kept_step (f := f) NX K
        have HE := Go.Lib.hid (KE.trans he.out)
        have C := Go.Lib.hid (CS.out x true false Bt Bk K)
        clear NX KE hk
        have hl2 : (if f true false then K ++ [x] else K).length ≤ K.length + 1 := by split <;> simp
        have hlk : K.length ≤ 5000 := by simp at hl; omega
        generalize (if f true false = true then K ++ [x] else K) = K2 at HE C hl2
        go_wp2
        go_quiet (fail)
        go_wp2
        go_quiet (fail)
        go_wp2
        go_quiet (fail)
        go_wp2_with (go_at_call 70; refine (C.out _ (keeps_drewN HKk.out _) hlk).mono ?_; rintro e w1 ⟨rfl, hk1, hb2⟩)
        go_roundw
        case rel => exact ⟨p, [], K2, hp2, HQ.out, hk1, HE, by simp at hl ⊢; omega, hw.trans ((of_drewN hb2).mono (by omega)), hbw.trans ((of_drewN hb2).mono (by omega))⟩
        case measure => simp; try omega
      | cons y q =>
        obtain ⟨A, c, rfl, -, -, -⟩ := hp.open_
        obtain ⟨b0, off, rfl, hb0, hx, hcell0, hn, hc1, hc, hp2⟩ := hp.head
        have hcell := (hw.cell (p := ⟨b0, off, none⟩) hb0).trans hcell0
        have k0 : (0 : Int) < (p.length : Int) + 1 := by omega
        have k2 : ((p.length : Int) + 1 == 0) = false := by simp; omega
        obtain ⟨B, d, rfl, -, -, -⟩ := hq.open_
        obtain ⟨b1, off1, rfl, hb1, hy, hcell10, hm, hd1, hd, hq2⟩ := hq.head
        have hcell1 := (hw.cell (p := ⟨b1, off1, none⟩) hb1).trans hcell10
        have k1 : (0 : Int) < (q.length : Int) + 1 := by omega
        have k3 : ((q.length : Int) + 1 == 0) = false := by simp; omega
        clear hp hq
        by_cases hxy : x < y
        · skip
          have t1 : decide (x ≤ y) = true := by simp; omega
          have t2 : decide (y ≤ x) = false := by simp; omega
          have NX : next (x :: p) (y :: q) = some ((x, true, false), p, (y :: q)) := by simp only [next]; rw [if_pos hxy]
          have KE := kept_step (f := f) NX K
          have HE := Go.Lib.hid (KE.trans he.out)
          have C := Go.Lib.hid (CS.out x true false Bt Bk K)
          clear NX KE hk
          have hl2 : (if f true false then K ++ [x] else K).length ≤ K.length + 1 := by split <;> simp
          have hlk : K.length ≤ 5000 := by simp at hl; omega
          generalize (if f true false = true then K ++ [x] else K) = K2 at HE C hl2
          go_wp2
          go_quiet (fail)
          go_wp2
          go_quiet (fail)
          go_wp2
          go_quiet (fail)
          go_wp2_with (go_at_call 70; refine (C.out _ (keeps_drewN HKk.out _) hlk).mono ?_; rintro e w1 ⟨rfl, hk1, hb2⟩)
          go_roundw
          case rel => exact ⟨p, (y :: q), K2, hp2, HQ.out, hk1, HE, by simp at hl ⊢; omega, hw.trans ((of_drewN hb2).mono (by omega)), hbw.trans ((of_drewN hb2).mono (by omega))⟩
          case measure => simp; try omega
        · by_cases hyx : y < x
          · skip
            have t1 : decide (x ≤ y) = false := by simp; omega
            have t2 : decide (y ≤ x) = true := by simp; omega
            have NX : next (x :: p) (y :: q) = some ((y, false, true), (x :: p), q) := by simp only [next]; rw [if_neg hxy, if_pos hyx]
            have KE := kept_step (f := f) NX K
            have HE := Go.Lib.hid (KE.trans he.out)
            have C := Go.Lib.hid (CS.out y false true Bt Bk K)
            clear NX KE hk
            have hl2 : (if f false true then K ++ [y] else K).length ≤ K.length + 1 := by split <;> simp
            have hlk : K.length ≤ 5000 := by simp at hl; omega
            generalize (if f false true = true then K ++ [y] else K) = K2 at HE C hl2
            go_wp2
            go_quiet (fail)
            go_wp2
            go_quiet (fail)
            go_wp2
            go_quiet (fail)
            go_wp2_with (go_at_call 70; refine (C.out _ (keeps_drewN HKk.out _) hlk).mono ?_; rintro e w1 ⟨rfl, hk1, hb2⟩)
            go_roundw
            case rel => exact ⟨(x :: p), q, K2, HP.out, hq2, hk1, HE, by simp at hl ⊢; omega, hw.trans ((of_drewN hb2).mono (by omega)), hbw.trans ((of_drewN hb2).mono (by omega))⟩
            case measure => simp; try omega
          · obtain rfl : x = y := by omega
            by_cases hc0 : c = 1
            · subst hc0
              rw [if_pos rfl] at hp2
              obtain rfl : p = [] := List.eq_nil_of_length_eq_zero (by omega)
              skip
              have t1 : decide (x ≤ x) = true := by simp
              have NX : next [x] (x :: q) = some ((x, true, true), [], q) := by simp only [next]; rw [if_neg (Nat.lt_irrefl _), if_neg (Nat.lt_irrefl _)]
              have KE := kept_step (f := f) NX K
              have HE := Go.Lib.hid (KE.trans he.out)
              have C := Go.Lib.hid (CS.out x true true Bt Bk K)
              clear NX KE hk
              have hl2 : (if f true true then K ++ [x] else K).length ≤ K.length + 1 := by split <;> simp
              have hlk : K.length ≤ 5000 := by simp at hl; omega
              generalize (if f true true = true then K ++ [x] else K) = K2 at HE C hl2
              go_wp2
              go_quiet (fail)
              go_wp2
              go_quiet (fail)
              go_wp2
              go_quiet (fail)
              go_wp2
              go_quiet (fail)
              go_wp2_with (go_at_call 70; refine (C.out _ (keeps_drewN HKk.out _) hlk).mono ?_; rintro e w1 ⟨rfl, hk1, hb2⟩)
              go_roundw
              case rel => exact ⟨[], q, K2, hp2, hq2, hk1, HE, by simp at hl ⊢; omega, hw.trans ((of_drewN hb2).mono (by omega)), hbw.trans ((of_drewN hb2).mono (by omega))⟩
              case measure => simp; try omega
            · rw [if_neg hc0] at hp2
              skip
              have t1 : decide (x ≤ x) = true := by simp
              have NX : next (x :: p) (x :: q) = some ((x, true, true), p, q) := by simp only [next]; rw [if_neg (Nat.lt_irrefl _), if_neg (Nat.lt_irrefl _)]
              have KE := kept_step (f := f) NX K
              have HE := Go.Lib.hid (KE.trans he.out)
              have C := Go.Lib.hid (CS.out x true true Bt Bk K)
              clear NX KE hk
              have hl2 : (if f true true then K ++ [x] else K).length ≤ K.length + 1 := by split <;> simp
              have hlk : K.length ≤ 5000 := by simp at hl; omega
              generalize (if f true true = true then K ++ [x] else K) = K2 at HE C hl2
              go_wp2
              go_quiet (fail)
              go_wp2
              go_quiet (fail)
              go_wp2
              go_quiet (fail)
              go_wp2
              go_quiet (fail)
              go_wp2_with (go_at_call 70; refine (C.out _ (keeps_drewN HKk.out _) hlk).mono ?_; rintro e w1 ⟨rfl, hk1, hb2⟩)
              go_roundw
              case rel => exact ⟨p, q, K2, hp2, hq2, hk1, HE, by simp at hl ⊢; omega, hw.trans ((of_drewN hb2).mono (by omega)), hbw.trans ((of_drewN hb2).mono (by omega))⟩
              case measure => simp; try omega
end Go.Proofs.YtdgfnnjcpoklfaaDoor.Nums
