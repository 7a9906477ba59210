/- The reference's Of and Size. -/
import Derived.Test.YtgjdpmpbldofpaaDoorWlkRAdd
import Derived.Test.YtgjdpmpbldofpaaDoorWlkMany
namespace Go.Proofs.YtgjdpmpbldofpaaDoor.Wlk
open Go.RowKit Mem Pfx PR Oct

theorem in_low {p : Pt} (h : InT p) : Low p := by
  unfold InT at h
  unfold Low
  omega
theorem norm_low {l : List Pt} (h : Norm l) : ∀ p ∈ l, Low p := fun p hp => in_low (h.ins p hp)
set_option maxHeartbeats 4000000 in
theorem rof_any (v : Value) (l : List Pf) (w : World) (hv : Pfxs w v l) (hl : l.length ≤ 10000) : Calls Tryd.prog 10 #[v] w (GivesT (ofT l) w) := by
  obtain ⟨A, c, rfl, hlc, hc⟩ := hv.form
  have HV := Go.Lib.hid hv
  have hb0 : Below w.heap.size w (w.alloc (.cells #[] 42)) := (Below.refl _ w).alloc (Nat.le_refl _) _
  have h0 : (w.alloc (.cells #[] 42)).ownsRow w.heap.size 42 2 (.slice (some ⟨w.heap.size, 0, none⟩) 0 0) 0 (tcells []) := own_blkT (Nat.le_refl _) (heap_alloc_new _ _)
  have HB := Go.Lib.hid hb0
  have H0 := Go.Lib.hid h0
  clear hv hb0 h0
  go_enter Tryd.func10, Tryd.ntmps10
  go_wp2
  go_loopw [3, 4] (fun v3 v4 wx => ∃ (i m : Nat) (B : Option Addr) (d : Nat), i ≤ l.length ∧ v4 = .int .i64 i ∧ v3 = .slice B m d ∧ Hid (m = (ofT (l.take i)).length) ∧ Hid (wx.ownsRow w.heap.size 42 2 (.slice B m d) m (tcells (ofT (l.take i)))) ∧ Hid (Below w.heap.size w wx)) (fun _ v4 _ => l.length - (intOf v4).toNat)
  case atStart => exact ⟨0, 0, _, 0, Nat.zero_le _, rfl, rfl, Go.Lib.hid rfl, H0, HB⟩
  case round =>
    obtain ⟨i, m, B, d, hi, rfl, rfl, hm, hown, hb⟩ := hrel
    by_cases hlt : i < l.length
    · obtain ⟨p, hp⟩ : ∃ p, l[i]? = some p := ⟨_, List.getElem?_eq_getElem hlt⟩
      have hok := (HV.out).2 p (List.mem_of_getElem? hp)
      obtain ⟨bl, off, rfl, hbl, k0, k1⟩ := (HV.out).at_ hp
      have c0 := (hb.out.cell (p := ⟨bl, off + i * 2, none⟩) hbl).trans k0
      have c1 := (hb.out.cell (p := ⟨bl, off + i * 2 + 1, none⟩) hbl).trans k1
      have z0 : (0 : Int) ≤ (i : Int) := by omega
      have z1 : (i : Int) < (l.length : Int) := by omega
      have z1' : i + 1 ≤ l.length := hlt
      have hT := ofT_take hp
      have hn := of_is ((HV.out).2.take i)
      have HKC := Go.Lib.hid (fun (W : World) (h : Below w.heap.size w W) => (⟨(h.cell (p := ⟨bl, off + i * 2, none⟩) hbl).trans k0, (h.cell (p := ⟨bl, off + i * 2 + 1, none⟩) hbl).trans k1⟩ : W.cell? ⟨bl, off + i * 2, none⟩ = some (.int .u32 p.a) ∧ W.cell? ⟨bl, off + i * 2 + 1, none⟩ = some (.int .i64 p.n)))
      have CG := Go.Lib.hid (fun (W : World) => refGood_any p.a p.n hok.1 W)
      cases hg : good p with
      | false =>
        rw [hg, if_neg (by decide)] at hT
        rw [show goodB p.a p.n = false from hg] at CG
        have HT := Go.Lib.hid hT
        obtain ⟨pa, pn⟩ := p
        clear k0 k1 hp hbl hok hT hn hg hlt HKC
        dsimp only at c0 c1 CG
        go_wp2_with (go_at_call 17; refine (CG.out _).mono ?_; rintro e w1 ⟨rfl, hb1⟩; have B1 := Go.Lib.hid (hb.out.trans (hb1.mono hb.out.size)); have O1 := Go.Lib.hid (own_keep hown.out hb1); clear hb1)
        go_roundw
        case rel => exact ⟨i + 1, m, _, _, z1', by go_num, rfl, Go.Lib.hid (by rw [HT.out]; exact hm.out), Go.Lib.hid (by rw [HT.out]; exact O1.out), B1⟩
        case measure => simp [intOf]; omega
      | true =>
        have gp : G p := ⟨hg, hok.1⟩
        rw [hg, if_pos rfl] at hT
        rw [show goodB p.a p.n = true from hg] at CG
        have HT := Go.Lib.hid hT
        have hlx : Low (endsT p) := in_low (endsT_in gp)
        have hlen : (ofT (l.take i)).length ≤ i := by
          have := hn.2.2
          rw [List.length_take] at this
          omega
        have HLN := Go.Lib.hid (And.intro hm.out hlen)
        have CE := Go.Lib.hid (fun (W : World) => rends_any p gp W)
        have CA := Go.Lib.hid (fun (W : World) (ho : Pts W (.slice B m d) (ofT (l.take i))) => radd_any (.slice B m d) (ofT (l.take i)) (endsT p) W ho (by omega) (norm_low hn.1) hlx)
        unfold tV at CE
        generalize endsT p = x at CE CA HT hlx
        obtain ⟨pa, pn⟩ := p
        clear k0 k1 hp hbl hok hT hn hg hlt gp hlx hlen
        dsimp only at c0 c1 CG CE
        have HO := Go.Lib.hid (fun (W : World) (h : Below wr.heap.size wr W) => (show Pts W (.slice B m d) (ofT (l.take i)) from Pts.of_own (by have := own_keep hown.out h; rw [← hm.out]; exact this)))
        go_wp2_with (first
          | (go_at_call 17; refine (CG.out _).mono ?_; rintro e w1 ⟨rfl, hb1⟩; have R1 := Go.Lib.hid hb1; have B1 := Go.Lib.hid (hb.out.trans (hb1.mono hb.out.size)); (clear hb1 c0 c1); obtain ⟨c0, c1⟩ := HKC.out _ B1.out)
          | (go_at_call 18; have tok := B1.out; refine (CE.out _).mono ?_; rintro e w2 ⟨rfl, hb2⟩; have R2 := Go.Lib.hid (Pfx.Below.tr R1.out hb2); have B2 := Go.Lib.hid (B1.out.trans (hb2.mono B1.out.size)); clear hb2 tok)
          | (go_at_call 21; have tok := B2.out; refine (CA.out _ (HO.out _ R2.out)).mono ?_; rintro e w3 ⟨A3, c3, rfl, ho3, hb3⟩; have O3 := Go.Lib.hid (own_base ho3 B2.out.size); have B3 := Go.Lib.hid (B2.out.trans (hb3.mono B2.out.size)); clear ho3 hb3 tok))
        go_roundw
        case rel => exact ⟨i + 1, _, A3, c3, z1', by go_num, rfl, Go.Lib.hid (by rw [HT.out]), Go.Lib.hid (by rw [HT.out]; exact O3.out), B3⟩
        case measure => simp [intOf]; omega
    · have z1 : decide ((i : Int) < (l.length : Int)) = false := decide_eq_false (by omega)
      have HJ := Go.Lib.hid (show l.take i = l from List.take_of_length_le (by omega))
      rw [HJ.out] at hm hown
      go_wp2
      go_ret
      exact ⟨B, d, by rw [← hm.out]; rfl, by rw [← hm.out]; exact hown.out, hb.out⟩
theorem sizeT_take {l : List Pt} {j : Nat} {p : Pt} (h : l[j]? = some p) : sizeT (l.take (j + 1)) = sizeT (l.take j) + (p.B + 1 - p.A) := by
  rw [List.take_add_one, h]
  unfold sizeT
  simp
theorem sizeT_le {l : List Pt} (h : Norm l) : sizeT l ≤ 4294967296 := by
  rw [← many_T h]
  have : ∀ n, many (setT l) n ≤ n := by
    intro n
    induction n with
    | zero => exact Nat.le_refl _
    | succ n ih => unfold many; split <;> omega
  exact this _
theorem sizeT_part (l : List Pt) (j : Nat) : sizeT (l.take j) ≤ sizeT l := by
  have : sizeT l = sizeT (l.take j) + sizeT (l.drop j) := by
    unfold sizeT
    rw [← List.sum_append, ← List.map_append, List.take_append_drop]
  omega
set_option maxHeartbeats 4000000 in
theorem rsize_any (v : Value) (l : List Pt) (w : World) (hv : Pts w v l) (hn : Norm l) : Calls Tryd.prog 14 #[v] w (Tells (.int .i64 (sizeT l)) w) := by
  obtain ⟨A, c, rfl, hlc, hc⟩ := hv.form
  have HV := Go.Lib.hid hv
  have HS := Go.Lib.hid (sizeT_le hn)
  have HI := Go.Lib.hid hn.ins
  clear hv hn
  go_enter Tryd.func14, Tryd.ntmps14
  go_wp2
  go_loopw [3, 4] (fun v3 v4 wx => ∃ (i m : Nat), i ≤ l.length ∧ v4 = .int .i64 i ∧ v3 = .int .i64 m ∧ Hid (m = sizeT (l.take i)) ∧ Hid (Below w.heap.size w wx)) (fun _ v4 _ => l.length - (intOf v4).toNat)
  case atStart => exact ⟨0, 0, Nat.zero_le _, rfl, rfl, Go.Lib.hid rfl, Go.Lib.hid (Below.refl _ _)⟩
  case round =>
    obtain ⟨i, m, hi, rfl, rfl, hm, hb⟩ := hrel
    by_cases hlt : i < l.length
    · obtain ⟨p, hp⟩ : ∃ p, l[i]? = some p := ⟨_, List.getElem?_eq_getElem hlt⟩
      have hip := HI.out p (List.mem_of_getElem? hp)
      obtain ⟨bl, off, rfl, hbl, k0, k1⟩ := (HV.out).at_ hp
      have c0 := (hb.out.cell (p := ⟨bl, off + i * 2, none⟩) hbl).trans k0
      have c1 := (hb.out.cell (p := ⟨bl, off + i * 2 + 1, none⟩) hbl).trans k1
      have z0 : (0 : Int) ≤ (i : Int) := by omega
      have z1 : (i : Int) < (l.length : Int) := by omega
      have z1' : i + 1 ≤ l.length := hlt
      have hT := sizeT_take hp
      have hle := sizeT_part l (i + 1)
      have hS := HS.out
      have hm' := hm.out
      unfold InT at hip
      obtain ⟨pA, hpA⟩ : ∃ a : Int, (p.A : Int) = a := ⟨_, rfl⟩
      obtain ⟨pB, hpB⟩ : ∃ a : Int, (p.B : Int) = a := ⟨_, rfl⟩
      rw [hpA] at c0
      rw [hpB] at c1
      have b0 : (m : Int) ≤ 4294967296 := by omega
      have b1 : 0 ≤ pA := by omega
      have b2 : pA ≤ pB := by omega
      have b3 : pB < 4294967296 := by omega
      have HR := Go.Lib.hid (show (sizeT (l.take (i + 1)) : Int) = (m : Int) + pB - pA + 1 by omega)
      clear k0 k1 hp hbl hT hle hS hm' hip hpA hpB hlt
      go_wp2
      go_quiet (fail)
      go_wp2
      go_roundw
      case rel => exact ⟨i + 1, sizeT (l.take (i + 1)), z1', by go_num, congrArg _ HR.out.symm, Go.Lib.hid rfl, Go.Lib.hid (hb.out.trans ((Mem.below_drewN _ _).mono hb.out.size))⟩
      case measure => simp [intOf]; omega
    · have z1 : decide ((i : Int) < (l.length : Int)) = false := decide_eq_false (by omega)
      have HJ := Go.Lib.hid (show l.take i = l from List.take_of_length_le (by omega))
      rw [HJ.out] at hm
      go_wp2
      go_ret
      exact ⟨by rw [← hm.out]; rfl, hb.out⟩
end Go.Proofs.YtgjdpmpbldofpaaDoor.Wlk
