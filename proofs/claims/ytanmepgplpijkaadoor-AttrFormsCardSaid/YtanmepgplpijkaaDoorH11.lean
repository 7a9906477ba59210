/- Whether a path may be told: the reference's Ways. Plain mathematics: what is in its own form remains as it is; good paths are in it; it has no more numbers. The program's Good of a path, yes or no. -/
import Derived.Test.YtanmepgplpijkaaDoorH10
import Derived.Test.YtanmepgplpijkaaDoorH00
import Derived.Test.YtanmepgplpijkaaDoorH02
import Derived.Outline
namespace Go.Proofs.YtanmepgplpijkaaDoor.Att
open Go.RowKit Mem Segm Rise
def lens (p : List Piece) : Nat := (p.map fun s => s.2.length).sum
theorem lens_take {p : List Piece} {k : Nat} {s : Piece} (h : p[k]? = some s) : lens (p.take (k + 1)) = lens (p.take k) + s.2.length := by
  rw [List.take_add_one, h, Option.toList_some]; simp [lens]
theorem lens_take_le (p : List Piece) (k : Nat) : lens (p.take k) ≤ lens p := by
  conv => rhs; rw [← List.take_append_drop k p]
  simp only [lens, List.map_append, List.sum_append]
  omega
def waysP (p : List Piece) : Bool := goodP p && decide (lens p ≤ 2000)
set_option maxHeartbeats 1000000 in
theorem refWays8 (v : Value) (p : List Piece) (w : World) (hv : Segs w v p) (hl : lens p ≤ 100000) :
    Calls Tryd.prog 34 #[v] w (Tells (.bool (waysP p)) w) := by
  have HV := Go.Lib.hid hv
  obtain ⟨A, c, rfl, hlc, hc⟩ := hv.form
  have CG := Go.Lib.hid (fun (W : World) (h : Below w.heap.size w W) => refGood4 _ p W (HV.out.keep h))
  have HL := Go.Lib.hid hl
  clear hv hl
  go_enter Tryd.func34, Tryd.ntmps34
  go_wp2
  go_loopw [3, 4] (fun v3 v4 wr => ∃ i : Nat, i ≤ p.length ∧ v3 = .int .i64 (lens (p.take i) : Nat) ∧ v4 = .int .i64 i ∧ wr = w) (fun _ v4 _ => p.length - (intOf v4).toNat)
  case atStart => exact ⟨0, Nat.zero_le _, rfl, rfl, rfl⟩
  case round =>
    obtain ⟨i, hi, rfl, rfl, rfl⟩ := hrel
    by_cases hlt : i < p.length
    · obtain ⟨s, hs⟩ : ∃ s, p[i]? = some s := ⟨_, List.getElem?_eq_getElem hlt⟩
      obtain ⟨b, off, x, rfl, hbl, k1, k2, hx⟩ := HV.out.at_ hs
      obtain ⟨Ax, cx, rfl, hlx, hcx, -, -⟩ := hx.open_
      have HE := Go.Lib.hid (lens_take hs)
      have HM := Go.Lib.hid (Nat.le_trans (lens_take_le p (i + 1)) HL.out)
      obtain ⟨m, hm⟩ : ∃ m, m = s.2.length := ⟨_, rfl⟩
      rw [← hm] at k2 HE
      have z0 : (0 : Int) ≤ (i : Int) := by omega
      have z1 : (i : Int) < (p.length : Int) := by omega
      have y1 : wrap64 ((lens (p.take i) : Nat) + (m : Int)) = ((lens (p.take (i + 1)) : Nat) : Int) := by
        have e := HE.out
        have e2 := HM.out
        rw [e] at e2 ⊢
        unfold wrap64
        omega
      clear hx hs hm k1
      go_wp2
      go_roundw
      case rel => exact ⟨i + 1, by omega, by first | exact congrArg _ y1 | (rw [y1]) | go_num, by go_num, by first | rfl | trivial⟩
      case measure => simp [intOf]; omega
    · obtain rfl : i = p.length := by omega
      have z1 : decide ((p.length : Int) < (p.length : Int)) = false := by simp
      have e : lens (p.take p.length) = lens p := by rw [List.take_length]
      rw [e]
      cases hg : goodP p with
      | false =>
        rw [hg] at CG
        have HW := Go.Lib.hid (show waysP p = false by unfold waysP; rw [hg]; rfl)
        go_wp2_with (go_at_call 55; refine (CG.out _ (Below.refl _ _)).mono ?_; rintro e x ⟨rfl, hb⟩)
        go_ret
        rw [HW.out]
        exact ⟨rfl, hb⟩
      | true =>
        rw [hg] at CG
        have HW := Go.Lib.hid (show waysP p = decide (lens p ≤ 2000) by unfold waysP; rw [hg]; rfl)
        have HD := Go.Lib.hid (show decide ((lens p : Int) ≤ 2000) = decide (lens p ≤ 2000) by
          by_cases h : lens p ≤ 2000
          · rw [decide_eq_true h, decide_eq_true (by omega)]
          · rw [decide_eq_false h, decide_eq_false (by omega)])
        go_wp2_with (go_at_call 55; refine (CG.out _ (Below.refl _ _)).mono ?_; rintro e x ⟨rfl, hb⟩)
        go_ret
        exact ⟨by rw [HW.out]; exact congrArg (fun b => Ending.returned (Value.bool b)) HD.out, hb⟩
end Go.Proofs.YtanmepgplpijkaaDoor.Att
namespace Go.Proofs.YtanmepgplpijkaaDoor.Att
open Segm Rise
theorem okTo_norm {p : List Piece} : ∀ {n : Nat}, n ≤ p.length → okTo p n = true → normS (p.take n) = p.take n
  | 0, _, _ => by simp [normS_nil]
  | n + 1, hn, h => by
    unfold okTo at h
    rw [Bool.and_eq_true] at h
    have ih := okTo_norm (n := n) (by omega) h.1
    obtain ⟨s, hs⟩ : ∃ s, p[n]? = some s := ⟨_, List.getElem?_eq_getElem (by omega)⟩
    have hk := h.2
    unfold okAt at hk
    rw [hs] at hk
    simp only [Bool.and_eq_true, Bool.or_eq_true, decide_eq_true_eq] at hk
    obtain ⟨⟨h1, h2⟩, h3⟩ := hk
    have hne : s.2 ≠ [] := fun e => by rw [e] at h1; simp at h1
    rw [List.take_add_one, hs, Option.toList_some, normS_snoc, ih]
    obtain ⟨k, l⟩ := s
    dsimp only at h1 h2 h3 hne
    rcases h3 with ⟨hk1, hset⟩ | ⟨hk2, hr⟩
    · subst hk1
      unfold normOne
      rw [if_neg (show ¬ ((1 : Int), l).1 = 2 by simp), if_pos ⟨rfl, hne⟩]
      dsimp only
      rw [hset]
    · subst hk2
      unfold normOne
      rw [if_pos (show ((2 : Int), l).1 = 2 from rfl)]
      refine puts_short (fun r hr2 => ?_) _ l rfl h2 hne
      rintro ⟨q1, q2⟩
      have hn0 : 0 < n := by
        rcases Nat.eq_zero_or_pos n with h0 | h0
        · subst h0; simp at hr2
        · exact h0
      have hg : p[n - 1]? = some r := by
        rw [List.getLast?_eq_getElem?, List.length_take, Nat.min_eq_left (by omega), List.getElem?_take] at hr2
        rw [if_pos (by omega)] at hr2
        exact hr2
      unfold roomy at hr
      rw [hg, decide_eq_true hn0] at hr
      simp [q1, q2] at hr
theorem good_norm {p : List Piece} (h : goodP p = true) : normS p = p := by
  unfold goodP at h
  rw [Bool.and_eq_true] at h
  have := okTo_norm (Nat.le_refl _) h.2
  rwa [List.take_length] at this
end Go.Proofs.YtanmepgplpijkaaDoor.Att
namespace Go.Proofs.YtanmepgplpijkaaDoor.Att
open Go.RowKit Mem Rise Segm
theorem okTo_next {p : List Piece} {i : Nat} (h : okTo p i = true) (h2 : okAt p i = true) : okTo p (i + 1) = true := by unfold okTo; rw [h, h2]; rfl
set_option maxRecDepth 100000 in
set_option maxHeartbeats 8000000 in
theorem pgood_any (v : Value) (p : List Piece) (w : World) (hv : Segs w v p) :
    Calls Tryd.prog 30 #[v] w (Tells (.bool (goodP p)) w) := by
  have HV := Go.Lib.hid hv
  obtain ⟨A, c, rfl, hlc, hc⟩ := hv.form
  have HB := Go.Lib.hid (Below.refl w.heap.size w)
  clear hv
  by_cases hp : p.length ≤ 100
  case neg =>
    have e : goodP p = false := by unfold goodP; rw [decide_eq_false hp]; rfl
    rw [e]
    have z : (100 : Int) < (p.length : Int) := by omega
    go_enter Tryd.func30, Tryd.ntmps30
    go_wp2
    go_ret
    exact ⟨rfl, HB.out⟩
  have eg : goodP p = okTo p p.length := by unfold goodP; rw [decide_eq_true hp]; rfl
  rw [eg]
  have hpd : decide ((100 : Int) < (p.length : Int)) = false := decide_eq_false (by omega)
  clear eg
  go_enter Tryd.func30, Tryd.ntmps30
  go_wp2
  go_loopw [10] (fun v10 wr => ∃ i : Nat, i ≤ p.length ∧ v10 = .int .i64 i ∧ Hid (okTo p i = true) ∧ Hid (Below w.heap.size w wr)) (fun v10 _ => p.length - (intOf v10).toNat)
  case atStart => exact ⟨0, Nat.zero_le _, rfl, Go.Lib.hid rfl, HB⟩
  case round =>
    obtain ⟨i, hi, rfl, hok, hbw⟩ := hrel
    by_cases hlt : i < p.length
    · obtain ⟨s, hs⟩ : ∃ s, p[i]? = some s := ⟨_, List.getElem?_eq_getElem hlt⟩
      obtain ⟨b, off, x, rfl, hbl, j1, j2, hx⟩ := (HV.out.keep hbw.out).at_ hs
      obtain ⟨Ax, cx, rfl, hlx, hcx, -, -⟩ := hx.open_
      obtain ⟨ks, hks⟩ : ∃ ks, ks = s.1 := ⟨_, rfl⟩
      obtain ⟨m, hm⟩ : ∃ m, m = s.2.length := ⟨_, rfl⟩
      rw [← hks] at j1
      rw [← hm] at j2 hx
      have z0 : (0 : Int) ≤ (i : Int) := by omega
      have z1 : (i : Int) < (p.length : Int) := by omega
      have HAT : Hid (okAt p i = (decide (1 ≤ m) && decide (m ≤ 255) && ((decide (ks = 1) && decide (setOf s.2 = s.2)) || (decide (ks = 2) && !roomy p i)))) := Go.Lib.hid (by unfold okAt; rw [hs, hm, hks])
      have HNX := Go.Lib.hid (fun h2 => okTo_next hok.out (show okAt p i = true from h2))
      have HNO := Go.Lib.hid (fun (h2 : okAt p i = false) => okTo_bad h2 hlt)
      have hbA : Below w.heap.size w (wr.alloc (.cells #[.int .i64 ks, .slice Ax m cx] 78)) := hbw.out.alloc hbw.out.size _
      have HA := Go.Lib.hid hbA
      by_cases g0 : m = 0
      · have HF := Go.Lib.hid (HNO.out (by rw [HAT.out, decide_eq_false (show ¬ 1 ≤ m by omega)]; rfl))
        subst g0
        clear hs hx hks hm HAT HNX HNO hbA
        go_wp2
        go_ret
        rw [HF.out]
        exact ⟨rfl, HA.out⟩
      by_cases g1 : 255 < m
      · have d1 : decide ((m : Int) = 0) = false := by simp; omega
        have d2 : (255 : Int) < (m : Int) := by omega
        have d3 : ((m : Int) == 0) = false := by simp; omega
        have HF := Go.Lib.hid (HNO.out (by rw [HAT.out, decide_eq_false (show ¬ m ≤ 255 by omega)]; simp))
        clear hs hx hks hm HAT HNX HNO hbA
        go_wp2
        go_ret
        rw [HF.out]
        exact ⟨rfl, HA.out⟩
      have d1 : decide ((m : Int) = 0) = false := by simp; omega
      have d3 : ((m : Int) == 0) = false := by simp; omega
      have d2 : decide ((255 : Int) < (m : Int)) = false := by simp; omega
      have HA2 : Hid (okAt p i = ((decide (ks = 1) && decide (setOf s.2 = s.2)) || (decide (ks = 2) && !roomy p i))) := Go.Lib.hid (by rw [HAT.out, decide_eq_true (show 1 ≤ m by omega), decide_eq_true (show m ≤ 255 by omega)]; rfl)
      clear HAT
      by_cases hk1 : ks = 1
      · have HA3 : Hid (okAt p i = decide (rising s.2)) := Go.Lib.hid (by
          rw [HA2.out, hk1]
          simp only [decide_true, Bool.true_and, show decide ((1 : Int) = 2) = false from rfl, Bool.false_and, Bool.or_false]
          exact decide_eq_decide.2 (setOf_iff _))
        subst hk1
        have CI := Go.Lib.hid (Nums.is_any _ s.2 _ (hx.keep ((Below.refl _ wr).alloc (Nat.le_refl _) (.cells #[.int .i64 1, .slice Ax m cx] 78))))
        clear hs hx hks hm HA2 hbA g0 g1
        cases hr : decide (rising s.2) with
        | true =>
          rw [hr] at CI HA3
          have HF := Go.Lib.hid (HNX.out HA3.out)
          clear hr HA3 HNX HNO
          go_wp2_with (go_at_call 33; refine (CI.out).mono ?_; rintro e w1 ⟨rfl, hb1⟩; have HB1 := Go.Lib.hid (HA.out.trans (hb1.mono HA.out.size)); clear hb1)
          go_roundw
          case rel => exact ⟨i + 1, by omega, by go_num, HF, HB1⟩
          case measure => simp [intOf]; omega
        | false =>
          rw [hr] at CI HA3
          have HF := Go.Lib.hid (HNO.out HA3.out)
          clear hr HA3 HNX HNO
          go_wp2_with (go_at_call 33; refine (CI.out).mono ?_; rintro e w1 ⟨rfl, hb1⟩; have HB1 := Go.Lib.hid (HA.out.trans (hb1.mono HA.out.size)); clear hb1)
          go_ret
          rw [HF.out]
          exact ⟨rfl, HB1.out⟩
      have e1 : (ks == 1) = false := by simp [hk1]
      by_cases hk2 : ks = 2
      · have HA3 : Hid (okAt p i = !roomy p i) := Go.Lib.hid (by rw [HA2.out, hk2]; rfl)
        subst hk2
        clear hs hx hks hm HA2 hbA hk1 e1
        by_cases hi0 : i = 0
        · have HF := Go.Lib.hid (HNX.out (by rw [HA3.out]; unfold roomy; rw [decide_eq_false (by omega)]; rfl))
          subst hi0
          simp only [Nat.zero_mul, Nat.add_zero] at j1 j2
          clear HA3 HNX HNO
          go_wp2
          go_roundw
          case rel => exact ⟨1, by omega, by go_num, HF, HA⟩
          case measure => simp [intOf]; omega
        · obtain ⟨r, hr⟩ : ∃ r, p[i - 1]? = some r := ⟨_, List.getElem?_eq_getElem (by omega)⟩
          obtain ⟨b', off', y, e', hbl', q1, q2, hy⟩ := (HV.out.keep hbw.out).at_ hr
          injection e' with e'
          injection e' with e1' e2'
          subst e1' e2'
          obtain ⟨Ay, cy, rfl, hly, hcy, -, -⟩ := hy.open_
          obtain ⟨kr, hkr⟩ : ∃ ks, ks = r.1 := ⟨_, rfl⟩
          obtain ⟨mr, hmr⟩ : ∃ m, m = r.2.length := ⟨_, rfl⟩
          rw [← hkr] at q1
          rw [← hmr] at q2
          have HR : Hid (roomy p i = (decide (kr = 2) && decide (mr < 255))) := Go.Lib.hid (by unfold roomy; rw [hr, decide_eq_true (by omega), hkr, hmr]; rfl)
          have TB1 : Below wr.heap.size wr (wr.alloc (.cells #[.int .i64 2, .slice Ax m cx] 78)) := (Below.refl _ wr).alloc (Nat.le_refl _) _
          have q1' := keepsW TB1 q1
          have q2' := keepsW TB1 q2
          have zi : (0 : Int) < (i : Int) := by omega
          obtain ⟨i', rfl⟩ : ∃ i', i = i' + 1 := ⟨i - 1, by omega⟩
          have ei : (((i' + 1 : Nat) : Int)) - 1 = (i' : Int) := by omega
          have y0 : (0 : Int) ≤ (i' : Int) := by omega
          have y1 : (i' : Int) < (p.length : Int) := by omega
          simp only [Nat.add_sub_cancel] at q1 q2 q1' q2'
          clear hr hy hkr hmr TB1
          by_cases hkr2 : kr = 2
          · subst hkr2
            by_cases hmr2 : mr < 255
            · have y2 : (mr : Int) < 255 := by omega
              have HF := Go.Lib.hid (HNO.out (by rw [HA3.out, HR.out, decide_eq_true hmr2]; rfl))
              clear HA3 HNX HNO HR
              go_wp2
              go_ret
              rw [HF.out]
              exact ⟨rfl, HA.out⟩
            · have y2 : decide ((mr : Int) < 255) = false := decide_eq_false (by omega)
              have HF := Go.Lib.hid (HNX.out (by rw [HA3.out, HR.out, decide_eq_false hmr2]; rfl))
              clear HA3 HNX HNO HR
              go_wp2
              go_roundw
              case rel => exact ⟨i' + 1 + 1, by omega, by go_num, HF, HA⟩
              case measure => simp [intOf]; omega
          · have y2 : (kr == 2) = false := by simp [hkr2]
            have HF := Go.Lib.hid (HNX.out (by rw [HA3.out, HR.out, decide_eq_false hkr2]; rfl))
            clear HA3 HNX HNO HR
            go_wp2
            go_roundw
            case rel => exact ⟨i' + 1 + 1, by omega, by go_num, HF, HA⟩
            case measure => simp [intOf]; omega
      have e2 : (ks == 2) = false := by simp [hk2]
      have HF := Go.Lib.hid (HNO.out (by rw [HA2.out, decide_eq_false hk1, decide_eq_false hk2]; rfl))
      clear hs hx hks hm HA2 HNX HNO hbA hk1 hk2
      go_wp2
      go_ret
      rw [HF.out]
      exact ⟨rfl, HA.out⟩
    · obtain rfl : i = p.length := by omega
      have z1 : decide ((p.length : Int) < (p.length : Int)) = false := by simp
      go_wp2
      go_ret
      rw [hok.out]
      exact ⟨rfl, hbw.out⟩
end Go.Proofs.YtanmepgplpijkaaDoor.Att
