/- The reference's Good and Same, of lists of prefixes. -/
import Derived.Test.YtaemhgmekggliaaNlriRef
import Derived.BigQuiet
namespace Go.Proofs.Ytaemhgmekggliaa.PR
open Go.RowKit Go.Sort Mem Pfx

theorem all_take {l : List Pf} {j : Nat} {p : Pf} (h : l[j]? = some p) : (l.take (j + 1)).all good = ((l.take j).all good && good p) := by
  rw [List.take_add_one, h]; simp
theorem all_bad {l : List Pf} {j : Nat} {p : Pf} (h : l[j]? = some p) (hp : good p = false) : l.all good = false := by
  rw [List.all_eq_false]
  exact ⟨p, List.mem_of_getElem? h, by simp [hp]⟩
set_option maxHeartbeats 1000000 in
theorem refGoods_any (v : Value) (l : List Pf) (w : World) (hv : Pfxs w v l) : Calls Try.prog 10 #[v] w (Tells (.bool (l.all good)) w) := by
  have HV := Go.Lib.hid hv
  obtain ⟨A, c, rfl, hlc, hc⟩ := hv.form
  clear hv
  go_enter Try.func10, Try.ntmps10
  go_wp2
  go_loopw [3] (fun v3 wx => ∃ j : Nat, j ≤ l.length ∧ v3 = .int .i64 j ∧ Hid ((l.take j).all good = true) ∧ Hid (Below w.heap.size w wx)) (fun v3 _ => l.length - (intOf v3).toNat)
  case atStart => exact ⟨0, Nat.zero_le _, rfl, Go.Lib.hid (by simp), Go.Lib.hid (Below.refl _ _)⟩
  case round =>
    obtain ⟨j, hj, rfl, hall, hb⟩ := hrel
    by_cases hlt : j < l.length
    · obtain ⟨p, hp⟩ : ∃ p, l[j]? = some p := ⟨_, List.getElem?_eq_getElem hlt⟩
      obtain ⟨b, off, rfl, hbl, k0, k1⟩ := (HV.out).at_ hp
      have c0 := (hb.out.cell (p := ⟨b, off + j * 2, none⟩) hbl).trans k0
      have c1 := (hb.out.cell (p := ⟨b, off + j * 2 + 1, none⟩) hbl).trans k1
      have hpa := ((HV.out).2 p (List.mem_of_getElem? hp)).1
      have CG := Go.Lib.hid (fun (W : World) => refGood_any p.a p.n hpa W)
      have z0 : (0 : Int) ≤ (j : Int) := by omega
      have z1 : (j : Int) < (l.length : Int) := by omega
      cases hg : good p with
      | true =>
        have HA := Go.Lib.hid (all_take hp)
        rw [show goodB p.a p.n = true from hg] at CG
        have HG := Go.Lib.hid hg
        clear k0 k1 hp hg hpa hbl
        go_wp2_with (go_at_call 25; refine (CG.out _).mono ?_; rintro e w1 ⟨rfl, hb1⟩; have HB1 := Go.Lib.hid (hb.out.trans (hb1.mono hb.out.size)); clear hb1)
        go_roundw
        case rel => exact ⟨j + 1, hlt, by go_num, Go.Lib.hid (by rw [HA.out, hall.out, HG.out]; rfl), HB1⟩
        case measure => simp [intOf]; omega
      | false =>
        have HA := Go.Lib.hid (all_bad hp hg)
        rw [show goodB p.a p.n = false from hg] at CG
        clear k0 k1 hp hg hpa hbl
        go_wp2_with (go_at_call 25; refine (CG.out _).mono ?_; rintro e w1 ⟨rfl, hb1⟩; have HB1 := Go.Lib.hid (hb.out.trans (hb1.mono hb.out.size)); clear hb1)
        go_ret
        exact ⟨by rw [HA.out]; rfl, HB1.out⟩
    · have HJ := Go.Lib.hid (show j = l.length by omega)
      have z1 : decide ((j : Int) < (l.length : Int)) = false := decide_eq_false (by omega)
      go_wp2
      go_ret
      have ha := hall.out
      rw [HJ.out, List.take_length] at ha
      exact ⟨by rw [ha]; rfl, hb.out⟩
set_option maxHeartbeats 1000000 in
theorem same_yes (v u : Value) (l : List Pf) (w : World) (hv : Pfxs w v l) (hu : Pfxs w u l) : Calls Try.prog 14 #[v, u] w (Tells (.bool true) w) := by
  have HV := Go.Lib.hid hv
  have HU := Go.Lib.hid hu
  obtain ⟨A, c, rfl, hlc, hc⟩ := hv.form
  obtain ⟨A2, c2, rfl, hlc2, hc2⟩ := hu.form
  clear hv hu
  go_enter Try.func14, Try.ntmps14
  go_wp2
  go_loopw [5] (fun v5 wx => ∃ j : Nat, j ≤ l.length ∧ v5 = .int .i64 j ∧ Hid (Below w.heap.size w wx)) (fun v5 _ => l.length - (intOf v5).toNat)
  case atStart => exact ⟨0, Nat.zero_le _, rfl, Go.Lib.hid (Below.refl _ _)⟩
  case round =>
    obtain ⟨j, hj, rfl, hb⟩ := hrel
    by_cases hlt : j < l.length
    · obtain ⟨p, hp⟩ : ∃ p, l[j]? = some p := ⟨_, List.getElem?_eq_getElem hlt⟩
      obtain ⟨b, off, rfl, hbl, k0, k1⟩ := (HV.out).at_ hp
      obtain ⟨b2, off2, rfl, hbl2, k2, k3⟩ := (HU.out).at_ hp
      have c0 := (hb.out.cell (p := ⟨b, off + j * 2, none⟩) hbl).trans k0
      have c1 := (hb.out.cell (p := ⟨b, off + j * 2 + 1, none⟩) hbl).trans k1
      have c2 := (hb.out.cell (p := ⟨b2, off2 + j * 2, none⟩) hbl2).trans k2
      have c3 := (hb.out.cell (p := ⟨b2, off2 + j * 2 + 1, none⟩) hbl2).trans k3
      have z0 : (0 : Int) ≤ (j : Int) := by omega
      have z1 : (j : Int) < (l.length : Int) := by omega
      clear k0 k1 k2 k3 hp hbl hbl2
      go_wp2
      go_quiet (fail)
      go_wp2
      go_roundw
      case rel => exact ⟨j + 1, hlt, by go_num, Go.Lib.hid (hb.out.trans ((Mem.below_drewN _ _).mono hb.out.size))⟩
      case measure => simp [intOf]; omega
    · have z1 : decide ((j : Int) < (l.length : Int)) = false := decide_eq_false (by omega)
      go_wp2
      go_ret
      exact ⟨rfl, hb.out⟩
end Go.Proofs.Ytaemhgmekggliaa.PR
