/- slices.Compact at prefixes. -/
import Derived.Test.YtgjdpmpbldofpaaDoorPkClone
import Derived.Test.YtgjdpmpbldofpaaDoorPkDedup
namespace Go.Proofs.YtgjdpmpbldofpaaDoor.PR
open Go.RowKit Mem Pfx Oct

theorem take_next {l : List Pf} {i : Nat} {p : Pf} (h : l[i]? = some p) : l.take (i + 1) = l.take i ++ [p] := by rw [List.take_add_one, h]; rfl
theorem drop_on {d l : List Pf} {i : Nat} (h : d.drop i = l.drop i) : d.drop (i + 1) = l.drop (i + 1) := by
  have h1 := congrArg (List.drop 1) h
  rwa [List.drop_drop, List.drop_drop] at h1
set_option maxRecDepth 100000 in
set_option maxHeartbeats 8000000 in
theorem compact_any (A : Option Addr) (c : Nat) (l : List Pf) (base : Nat) (w : World) (ho : w.ownsRow base 24 2 (.slice A l.length c) l.length (pcells l)) (hbase : base ≤ w.heap.size) (hn : l.length ≤ 100000) :
    Calls Tryd.prog 48 #[.slice A l.length c] w (GivesAt base (dd l) w) := by
  have HV := Go.Lib.hid ho
  have zl : (l.length : Int) ≤ 100000 := by omega
  by_cases h2 : l.length < 2
  · have z2 : (l.length : Int) < 2 := by omega
    have HD := Go.Lib.hid (dd_short h2)
    clear ho
    go_enter Tryd.func48, Tryd.ntmps48
    go_wp2
    go_ret
    refine ⟨A, c, by rw [HD.out]; rfl, ?_, Below.refl _ _ |>.mono hbase⟩
    rw [HD.out]
    exact HV.out
  · have z2 : decide ((l.length : Int) < 2) = false := decide_eq_false (by omega)
    rcases own_blkcases ho with ⟨_, _, hnil⟩ | ⟨g, rfl, hg, hblk⟩
    · subst hnil
      simp at h2
    have HBK := Go.Lib.hid hblk
    have ci : c ≤ maxLen := hblk.2.1
    have cl : l.length ≤ c := hblk.1
    unfold maxLen at ci
    clear hblk ho
    go_enter Tryd.func48, Tryd.ntmps48
    go_wp2
    go_loopw [3] (fun v3 wx => ∃ j : Nat, j + 1 ≤ l.length ∧ v3 = .int .i64 ((j : Int) + 1) ∧ Hid (dd (l.take (j + 1)) = l.take (j + 1)) ∧ Hid (Blk wx g c l) ∧ Hid (Below base w wx)) (fun v3 _ => l.length - (intOf v3).toNat)
    case atStart => exact ⟨0, by omega, by go_num, Go.Lib.hid (dd_one l), HBK, Go.Lib.hid (Below.refl _ _ |>.mono hbase)⟩
    case round =>
      obtain ⟨j, hj, rfl, hdd, hbk, hb⟩ := hrel
      have z0 : (0 : Int) ≤ (j : Int) := by omega
      have z3 : (j : Int) + 1 ≤ 100000 := by omega
      have wj : IntKind.i64.wrap ((j : Int) + 1 - 1) = (j : Int) := by rw [IntKind.wrap_i64]; omega
      have ej : ((j : Int) + 1).toNat = j + 1 := by omega
      by_cases hlt : j + 1 < l.length
      · have z1 : (j : Int) + 1 < (l.length : Int) := by omega
        have z4 : (j : Int) < (l.length : Int) := by omega
        have z5 : (j : Int) + 1 ≤ (c : Int) := by omega
        have hcj : ¬ (c = j + 1) := by omega
        obtain ⟨q, hq⟩ : ∃ q, l[j]? = some q := ⟨_, List.getElem?_eq_getElem (by omega)⟩
        obtain ⟨p, hp⟩ : ∃ p, l[j + 1]? = some p := ⟨_, List.getElem?_eq_getElem hlt⟩
        obtain ⟨k0, k1⟩ := hbk.out.cell hp
        obtain ⟨k2, k3⟩ := hbk.out.cell hq
        have HQ := Go.Lib.hid hq
        have HP := Go.Lib.hid hp
        clear hq hp
        go_wp2
        cases hsm : sameB p q with
        | true =>
          obtain rfl := sameB_eq.1 hsm
          go_quiet (fail)
          have B2 := Go.Lib.hid (hb.out.trans ((Mem.below_drewN wr nq).mono (Nat.le_trans hg (Nat.le_of_lt hbk.out.lt))))
          have K2 := Go.Lib.hid (hbk.out.below (Mem.below_drewN wr nq))
          clear k0 k1 k2 k3
          generalize wr.drewN nq = WN at B2 K2 ⊢
          go_wp2
          go_loopw [3, 5] (fun v3 v5 wx => ∃ (k m : Nat) (d : List Pf), k ≤ j + 1 + m ∧ j + 1 + (m + 1) ≤ l.length ∧ v3 = .int .i64 k ∧ v5 = .int .i64 ((m : Int) + 1) ∧ Hid (d.length = l.length ∧ d.take k = dd (l.take (j + 1 + (m + 1))) ∧ d.drop (j + 1 + m) = l.drop (j + 1 + m)) ∧ Hid (Blk wx g c d) ∧ Hid (Below base w wx)) (fun _ v5 _ => l.length - (intOf v5).toNat)
          case atStart => exact ⟨j + 1, 0, l, by omega, by omega, by go_num, by go_num, Go.Lib.hid ⟨rfl, by rw [dd_same HQ.out HP.out hsm, hdd.out], rfl⟩, K2, B2⟩
          case round =>
            obtain ⟨k, m, d, hkm, hml, rfl, rfl, hd, hbk, hb⟩ := hrel
            have y0 : (0 : Int) ≤ (m : Int) := by omega
            have y1 : (0 : Int) ≤ (k : Int) := by omega
            have y2 : (k : Int) < (l.length : Int) := by omega
            have y3 : (m : Int) + 1 ≤ 100000 := by omega
            have wm : IntKind.i64.wrap ((m : Int) + 1 - 1) = (m : Int) := by rw [IntKind.wrap_i64]; omega
            have em : ((m : Int) + 1).toNat = m + 1 := by omega
            by_cases hlm : j + 1 + (m + 1) < l.length
            · have y4 : (m : Int) + 1 < ((l.length - (j + 1) : Nat) : Int) := by omega
              have y5 : (m : Int) < ((l.length - (j + 1) : Nat) : Int) := by omega
              have hdp : ∀ i, j + 1 + m ≤ i → d[i]? = l[i]? := fun i hi => by
                have h := congrArg (fun x => x[i - (j + 1 + m)]?) hd.out.2.2
                simp only [List.getElem?_drop] at h
                rwa [show j + 1 + m + (i - (j + 1 + m)) = i by omega] at h
              obtain ⟨q2, hq2⟩ : ∃ q2, l[j + 1 + m]? = some q2 := ⟨_, List.getElem?_eq_getElem (by omega)⟩
              obtain ⟨p2, hp2⟩ : ∃ p2, l[j + 1 + m + 1]? = some p2 := ⟨_, List.getElem?_eq_getElem (by omega)⟩
              have hp2' : l[j + 1 + (m + 1)]? = some p2 := by rw [← hp2]; congr 1
              obtain ⟨k0, k1⟩ := hbk.out.cell ((hdp (j + 1 + (m + 1)) (by omega)).trans hp2')
              obtain ⟨k2, k3⟩ := hbk.out.cell ((hdp (j + 1 + m) (by omega)).trans hq2)
              rw [show (j + 1 + (m + 1)) * 2 = (j + 1) * 2 + (m + 1) * 2 by omega] at k0 k1
              rw [show (j + 1 + m) * 2 = (j + 1) * 2 + m * 2 by omega] at k2 k3
              have HQ2 := Go.Lib.hid hq2
              have HP2 := Go.Lib.hid hp2
              clear hq2 hp2 hp2' hdp
              go_wp2
              cases hs2 : sameB p2 q2 with
              | true =>
                have HD := Go.Lib.hid (dd_same HQ2.out HP2.out hs2)
                obtain rfl := sameB_eq.1 hs2
                go_quiet (fail)
                have B2 := Go.Lib.hid (hb.out.trans ((Mem.below_drewN wr nq).mono (Nat.le_trans hg (Nat.le_of_lt hbk.out.lt))))
                have K2 := Go.Lib.hid (hbk.out.below (Mem.below_drewN wr nq))
                clear k0 k1 k2 k3
                generalize wr.drewN nq = WN at B2 K2 ⊢
                go_wp2
                go_roundw
                case rel => exact ⟨k, m + 1, d, by omega, by omega, rfl, by go_num, Go.Lib.hid ⟨hd.out.1, by rw [hd.out.2.1]; exact HD.out.symm, drop_on hd.out.2.2⟩, K2, B2⟩
                case measure => simp [intOf]; omega
              | false =>
                have HD := Go.Lib.hid (dd_other HQ2.out HP2.out hs2)
                have hkl : k < d.length := by rw [hd.out.1]; omega
                have hrel2 : d.set k p2 = d.set k p2 ∧ (d.set k p2).length = l.length ∧ (d.set k p2).take (k + 1) = dd (l.take (j + 1 + (m + 1 + 1))) ∧ (d.set k p2).drop (j + 1 + (m + 1)) = l.drop (j + 1 + (m + 1)) := by
                  refine ⟨rfl, by rw [List.length_set]; exact hd.out.1, ?_, ?_⟩
                  · rw [take_set_at hkl, hd.out.2.1]; exact HD.out.symm
                  · rw [List.drop_set_of_lt (by omega)]; exact drop_on hd.out.2.2
                have HR2 := Go.Lib.hid hrel2
                clear hrel2
                by_cases hA : p2.a = q2.a
                · have hB : ¬ p2.n = q2.n := fun hB => by simp [sameB, hA, hB] at hs2
                  obtain ⟨pa, pn⟩ := p2
                  obtain ⟨qa, qn⟩ := q2
                  dsimp only at hA hB k0 k1 k2 k3
                  subst hA
                  go_quiet (fail)
                  have B2 := Go.Lib.hid (hb.out.trans ((Mem.below_drewN wr nq).mono (Nat.le_trans hg (Nat.le_of_lt hbk.out.lt))))
                  have K2 := Go.Lib.hid (hbk.out.below (Mem.below_drewN wr nq))
                  obtain ⟨x0, c0, x1, c1, f0, f1⟩ := blk_store K2.out (Below.refl _ _) hkl
                  have r0 := ((Mem.below_drewN wr nq).cell (p := ⟨g, (j + 1) * 2 + (m + 1) * 2, none⟩) hbk.out.lt).trans k0
                  have r1 := ((Mem.below_drewN wr nq).cell (p := ⟨g, (j + 1) * 2 + (m + 1) * 2 + 1, none⟩) hbk.out.lt).trans k1
                  clear k0 k1 k2 k3
                  generalize wr.drewN nq = WN at B2 K2 c0 c1 f0 f1 r0 r1 ⊢
                  go_wp2
                  go_roundw
                  case rel => exact ⟨k + 1, m + 1, d.set k ⟨pa, pn⟩, by omega, by omega, by go_num, by go_num, Go.Lib.hid HR2.out.2, Go.Lib.hid (K2.out.set _), Go.Lib.hid ((B2.out.setCell (p := ⟨g, k * 2, none⟩) hg _).setCell (p := ⟨g, k * 2 + 1, none⟩) hg _)⟩
                  case measure => simp [intOf]; omega
                · have hB : ¬ ((p2.a : Int) = (q2.a : Int)) := by omega
                  go_quiet (fail)
                  have B2 := Go.Lib.hid (hb.out.trans ((Mem.below_drewN wr nq).mono (Nat.le_trans hg (Nat.le_of_lt hbk.out.lt))))
                  have K2 := Go.Lib.hid (hbk.out.below (Mem.below_drewN wr nq))
                  obtain ⟨x0, c0, x1, c1, f0, f1⟩ := blk_store K2.out (Below.refl _ _) hkl
                  have r0 := ((Mem.below_drewN wr nq).cell (p := ⟨g, (j + 1) * 2 + (m + 1) * 2, none⟩) hbk.out.lt).trans k0
                  have r1 := ((Mem.below_drewN wr nq).cell (p := ⟨g, (j + 1) * 2 + (m + 1) * 2 + 1, none⟩) hbk.out.lt).trans k1
                  clear k0 k1 k2 k3
                  generalize wr.drewN nq = WN at B2 K2 c0 c1 f0 f1 r0 r1 ⊢
                  go_wp2
                  go_roundw
                  case rel => exact ⟨k + 1, m + 1, d.set k p2, by omega, by omega, by go_num, by go_num, Go.Lib.hid HR2.out.2, Go.Lib.hid (K2.out.set _), Go.Lib.hid ((B2.out.setCell (p := ⟨g, k * 2, none⟩) hg _).setCell (p := ⟨g, k * 2 + 1, none⟩) hg _)⟩
                  case measure => simp [intOf]; omega
            · have hme : j + 1 + (m + 1) = l.length := by omega
              have y4 : decide ((m : Int) + 1 < ((l.length - (j + 1) : Nat) : Int)) = false := decide_eq_false (by omega)
              have hil : k < d.length := by rw [hd.out.1]; omega
              have HCL := Go.Lib.hid (blk_clear hbk.out (show k ≤ d.length by omega) hg hb.out (L := l.length) (by rw [hd.out.1]) (by omega))
              obtain ⟨W9, hcl, hk9, hb9⟩ := HCL.out
              have HK9 := Go.Lib.hid hk9
              have HB9 := Go.Lib.hid hb9
              have HF := Go.Lib.hid (show d.take k = dd l by rw [hd.out.2.1, hme, List.take_length])
              have y5 : (k : Int) ≤ (c : Int) := by omega
              have hck : ¬ (c = k) := by omega
              clear hk9 hb9
              go_wp2
              go_ret
              have h9 := HK9.out.own hg
              rw [HF.out] at h9
              have hlen : (dd l).length = k := by rw [← HF.out, List.length_take]; omega
              refine ⟨some ⟨g, 0, none⟩, c, by rw [hlen]; rfl, ?_, HB9.out⟩
              exact h9
        | false =>
          by_cases hA : p.a = q.a
          · have hB : ¬ p.n = q.n := fun hB => by simp [sameB, hA, hB] at hsm
            obtain ⟨pa, pn⟩ := p
            obtain ⟨qa, qn⟩ := q
            dsimp only at hA hB k0 k1 k2 k3
            subst hA
            go_quiet (fail)
            have B2 := Go.Lib.hid (hb.out.trans ((Mem.below_drewN wr nq).mono (Nat.le_trans hg (Nat.le_of_lt hbk.out.lt))))
            have K2 := Go.Lib.hid (hbk.out.below (Mem.below_drewN wr nq))
            clear k0 k1 k2 k3
            generalize wr.drewN nq = WN at B2 K2 ⊢
            go_wp2
            go_roundw
            case rel => exact ⟨j + 1, hlt, by go_num, Go.Lib.hid (by rw [dd_other HQ.out HP.out hsm, hdd.out]; exact (take_next HP.out).symm), K2, B2⟩
            case measure => simp [intOf]; omega
          · have hB : ¬ ((p.a : Int) = (q.a : Int)) := by omega
            go_quiet (fail)
            have B2 := Go.Lib.hid (hb.out.trans ((Mem.below_drewN wr nq).mono (Nat.le_trans hg (Nat.le_of_lt hbk.out.lt))))
            have K2 := Go.Lib.hid (hbk.out.below (Mem.below_drewN wr nq))
            clear k0 k1 k2 k3
            generalize wr.drewN nq = WN at B2 K2 ⊢
            go_wp2
            go_roundw
            case rel => exact ⟨j + 1, hlt, by go_num, Go.Lib.hid (by rw [dd_other HQ.out HP.out hsm, hdd.out]; exact (take_next HP.out).symm), K2, B2⟩
            case measure => simp [intOf]; omega
      · have z1 : decide ((j : Int) + 1 < (l.length : Int)) = false := decide_eq_false (by omega)
        have HE := Go.Lib.hid (show dd l = l by have h := hdd.out; rw [show j + 1 = l.length by omega, List.take_length] at h; exact h)
        go_wp2
        go_ret
        refine ⟨some ⟨g, 0, none⟩, c, by rw [HE.out]; rfl, ?_, hb.out⟩
        rw [HE.out]
        exact hbk.out.own hg
end Go.Proofs.YtgjdpmpbldofpaaDoor.PR
