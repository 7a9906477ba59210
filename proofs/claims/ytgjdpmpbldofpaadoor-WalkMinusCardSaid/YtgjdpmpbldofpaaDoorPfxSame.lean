/- The reference's Same, of any two lists of prefixes. -/
import Derived.Test.YtgjdpmpbldofpaaDoorPfxGive
import Derived.BigQuiet
namespace Go.Proofs.YtgjdpmpbldofpaaDoor.PR
open Go.RowKit Go.Sort Mem Pfx

theorem take_same {l m : List Pf} {j : Nat} {p : Pf} (h : l.take j = m.take j) (hl : l[j]? = some p) (hm : m[j]? = some p) : l.take (j + 1) = m.take (j + 1) := by
  rw [List.take_add_one, List.take_add_one, h, hl, hm]
set_option maxHeartbeats 2000000 in
theorem refSameP_any [DecidableEq Pf] (v u : Value) (l m : List Pf) (w : World) (hv : Pfxs w v l) (hu : Pfxs w u m) : Calls Tryd.prog 7 #[v, u] w (Tells (.bool (decide (l = m))) w) := by
  have HV := Go.Lib.hid hv
  have HU := Go.Lib.hid hu
  obtain ⟨A, c, rfl, hlc, hc⟩ := hv.form
  obtain ⟨A2, c2, rfl, hlc2, hc2⟩ := hu.form
  clear hv hu
  by_cases hlen : l.length = m.length
  case neg =>
    have y : ((l.length : Int) != (m.length : Int)) = true := by simp; omega
    have HD := Go.Lib.hid (show decide (l = m) = false from decide_eq_false (fun e => hlen (by rw [e])))
    rw [HD.out]
    clear hlen HD
    go_enter Tryd.func7, Tryd.ntmps7
    go_wp2
    go_ret
    exact ⟨rfl, Below.refl _ _⟩
  have y : ((l.length : Int) != (m.length : Int)) = false := by simp; omega
  have hml : m.length ≤ l.length ∧ l.length ≤ m.length := by omega
  clear hlen
  go_enter Tryd.func7, Tryd.ntmps7
  go_wp2
  go_loopw [5] (fun v5 wx => ∃ j : Nat, j ≤ l.length ∧ v5 = .int .i64 j ∧ Hid (l.take j = m.take j) ∧ Hid (Below w.heap.size w wx)) (fun v5 _ => l.length - (intOf v5).toNat)
  case atStart => exact ⟨0, Nat.zero_le _, rfl, Go.Lib.hid (by simp), Go.Lib.hid (Below.refl _ _)⟩
  case round =>
    obtain ⟨j, hj, rfl, ht, hb⟩ := hrel
    by_cases hlt : j < l.length
    · obtain ⟨p, hp⟩ : ∃ p, l[j]? = some p := ⟨_, List.getElem?_eq_getElem hlt⟩
      obtain ⟨q, hq⟩ : ∃ q, m[j]? = some q := ⟨_, List.getElem?_eq_getElem (by omega)⟩
      obtain ⟨b, off, rfl, hbl, k0, k1⟩ := (HV.out).at_ hp
      obtain ⟨b2, off2, rfl, hbl2, k2, k3⟩ := (HU.out).at_ hq
      have c0 := (hb.out.cell (p := ⟨b, off + j * 2, none⟩) hbl).trans k0
      have c1 := (hb.out.cell (p := ⟨b, off + j * 2 + 1, none⟩) hbl).trans k1
      have c2 := (hb.out.cell (p := ⟨b2, off2 + j * 2, none⟩) hbl2).trans k2
      have c3 := (hb.out.cell (p := ⟨b2, off2 + j * 2 + 1, none⟩) hbl2).trans k3
      have z0 : (0 : Int) ≤ (j : Int) := by omega
      have z1 : (j : Int) < (l.length : Int) := by omega
      have z2 : (j : Int) < (m.length : Int) := by omega
      by_cases hpq : p = q
      · subst hpq
        have HT := Go.Lib.hid (take_same ht.out hp hq)
        clear k0 k1 k2 k3 hp hq hbl hbl2
        go_wp2
        go_quiet (fail)
        go_wp2
        go_roundw
        case rel => exact ⟨j + 1, hlt, by go_num, HT, Go.Lib.hid (hb.out.trans ((Mem.below_drewN _ _).mono hb.out.size))⟩
        case measure => simp [intOf]; omega
      · have HD := Go.Lib.hid (show decide (l = m) = false from decide_eq_false (fun e => by rw [e, hq] at hp; injection hp with hp; exact hpq hp.symm))
        obtain ⟨pa, pn⟩ := p
        obtain ⟨qa, qn⟩ := q
        clear k0 k1 k2 k3 hp hq hbl hbl2
        dsimp only at c0 c1 c2 c3
        rw [HD.out]
        by_cases ha : pa = qa
        · have hn : ¬ pn = qn := fun e => hpq (by rw [ha, e])
          have y1 : (pn == qn) = false := by simp [hn]
          subst ha
          clear hpq hn
          go_wp2
          go_quiet (fail)
          go_wp2
          go_ret
          exact ⟨rfl, hb.out.trans ((Mem.below_drewN _ _).mono hb.out.size)⟩
        · have y1 : ((pa : Int) == (qa : Int)) = false := by simp; omega
          clear hpq ha
          go_wp2
          go_quiet (fail)
          go_wp2
          go_ret
          exact ⟨rfl, hb.out.trans ((Mem.below_drewN _ _).mono hb.out.size)⟩
    · have HJ := Go.Lib.hid (show j = l.length by omega)
      have HD := Go.Lib.hid (show decide (l = m) = true from decide_eq_true (by
        have h1 := ht.out
        have h2 := HJ.out
        rw [h2, List.take_length, List.take_of_length_le (by omega)] at h1
        exact h1))
      have z1 : decide ((j : Int) < (l.length : Int)) = false := decide_eq_false (by omega)
      go_wp2
      go_ret
      exact ⟨by rw [HD.out]; rfl, hb.out⟩
end Go.Proofs.YtgjdpmpbldofpaaDoor.PR
