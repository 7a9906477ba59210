/- Stage 12's law: whether frames are pieces. -/
import Derived.Test.YtgeekckoepnccaaFrmMem
import Derived.Test.YtgeekckoepnccaaOctRead
import Derived.Deep.RegionHeld3
import Derived.Deep.DeepCutAuto
namespace Go.Proofs.Ytgeekckoepnccaa.Frm
open Go.RowKit Mem Oct
open Go.Lib (hid)

theorem take_same {l p : List Pc} {i : Nat} {s : Pc} (h : l.take i = p.take i) (hl : l[i]? = some s) (hp : p[i]? = some s) : l.take (i + 1) = p.take (i + 1) := by
  rw [List.take_add_one, List.take_add_one, h, hl, hp]
theorem frm_ne {l p : List Pc} {i : Nat} {s t : Pc} (hl : l[i]? = some s) (hp : p[i]? = some t) (h : s ≠ t) : l ≠ p := by
  rintro rfl
  exact h (Option.some.inj (hl.symm.trans hp))
set_option maxRecDepth 100000 in
set_option maxHeartbeats 4000000 in
theorem same12_any (v x : Value) (l p : List Pc) (w : World) (hv : Frms w v l) (hx : Frms w x p) : Calls Try.prog 13 #[v, x] w (Tells (.bool (decide (l = p))) w) := by
  obtain ⟨A, c, rfl, hc, hc2⟩ := hv.form
  obtain ⟨A', c', rfl, hc', hc2'⟩ := hx.form
  have HV := hid hv
  have HX := hid hx
  clear hv hx
  by_cases hlen : l.length = p.length
  case neg =>
    have z : ((l.length : Int) != (p.length : Int)) = true := by simp; omega
    rw [decide_eq_false (fun e => hlen (by rw [e]))]
    clear hlen
    go_enter Try.func13, Try.ntmps13
    go_wp2
    go_ret
    exact ⟨rfl, Below.refl _ _⟩
  have HL := hid hlen
  rw [← hlen] at hc'
  clear hlen
  rw [← HL.out]
  generalize hr : decide (l = p) = r
  have HR := hid hr
  clear hr
  go_enter Try.func13, Try.ntmps13
  go_wp2
  go_loopw [5] (fun v5 wx => ∃ i : Nat, i ≤ l.length ∧ v5 = .int .i64 i ∧ Hid (l.take i = p.take i) ∧ Hid (Below w.heap.size w wx)) (fun v5 _ => l.length - (intOf v5).toNat)
  case atStart => exact ⟨0, Nat.zero_le _, rfl, hid rfl, hid (Below.refl _ _)⟩
  case round =>
    obtain ⟨i, hi, rfl, HT, HB⟩ := hrel
    by_cases hlt : i < l.length
    · have hlt2 : i < p.length := by rw [← HL.out]; exact hlt
      have e1 := List.getElem?_eq_getElem hlt
      have e2 := List.getElem?_eq_getElem hlt2
      obtain ⟨b, off, d, rfl, hb, k0, k1, kd⟩ := ((HV.out).keep HB.out).at_ e1
      obtain ⟨b', off', d', rfl, hb', j0, j1, jd⟩ := ((HX.out).keep HB.out).at_ e2
      generalize l[i] = s at e1 k0 kd
      generalize p[i] = t at e2 j0 jd
      obtain ⟨s1, s2⟩ := s
      obtain ⟨t1, t2⟩ := t
      dsimp only at k0 kd j0 jd
      obtain ⟨Ad, cd, rfl, -, -⟩ := kd.form
      obtain ⟨Ae, ce, rfl, -, -⟩ := jd.form
      have x1 := text8 kd
      have x2 := text8 jd
      have x3 := text8 (kd.keep (Below.refl _ _).drew)
      have x4 := text8 (jd.keep (Below.refl _ _).drew)
      have xe := txt_eq kd.2 jd.2
      have HE := hid (And.intro e1 e2)
      have z0 : (0 : Int) ≤ (i : Int) := by omega
      have z1 : (i : Int) < (l.length : Int) := by omega
      clear e1 e2 kd jd hlt2
      by_cases h1 : s1 = t1
      case neg =>
        have y : ((s1 : Int) != t1) = true := by simp; omega
        have E := hid (show r = false from HR.out.symm.trans (decide_eq_false (frm_ne HE.out.1 HE.out.2 (fun e => h1 (by injection e)))))
        clear h1
        go_upto_region 6 with fail
        refine wp_region_noPanic ?_
        go_region
        refine NoPanic.normal ?_
        go_wp2
        go_ret
        exact ⟨by rw [E.out]; rfl, HB.out.drew⟩
      subst h1
      have y : ((s1 : Int) != s1) = false := by simp
      by_cases h2 : s2 = t2
      · subst h2
        rw [decide_eq_true rfl] at xe
        go_upto_region 6 with fail
        refine wp_region_noPanic ?_
        go_region
        refine NoPanic.normal ?_
        go_wp2
        go_roundw
        case rel => exact ⟨i + 1, hlt, by go_num, hid (take_same HT.out HE.out.1 HE.out.2), hid HB.out.drew⟩
        case measure => simp [intOf]; omega
      · rw [decide_eq_false h2] at xe
        have E := hid (show r = false from HR.out.symm.trans (decide_eq_false (frm_ne HE.out.1 HE.out.2 (fun e => h2 (by injection e)))))
        clear h2
        go_upto_region 6 with fail
        refine wp_region_noPanic ?_
        go_region
        refine NoPanic.normal ?_
        go_wp2
        go_ret
        exact ⟨by rw [E.out]; rfl, HB.out.drew⟩
    · obtain rfl : i = l.length := by omega
      have E := hid (show l = p by have h := HT.out; rw [List.take_length, HL.out, List.take_length] at h; exact h)
      go_wp2
      go_ret
      exact ⟨by rw [show r = true from HR.out.symm.trans (decide_eq_true E.out)]; rfl, HB.out⟩
end Go.Proofs.Ytgeekckoepnccaa.Frm
