/- The reference's Prefixes. -/
import Derived.Test.YtgjdpmpbldofpaaDoorWlkROf
namespace Go.Proofs.YtgjdpmpbldofpaaDoor.Wlk
open Go.RowKit Mem Pfx PR Oct

theorem run_mul2 (P : Program) (t : TypeId) (s : Nat) (S : Int) (hs : s ≤ 4294967296) (hS : S = 2 * (s : Int)) (W : World) : (binOp .mul t (.int .i64 2) (.int .i64 s)).run P W = .ok (.int .i64 S) W := by
  subst hS
  simp [go_sem]
  rw [IntKind.wrap_i64]
  omega
theorem run_rem (P : Program) (t : TypeId) (a : Nat) (S R : Int) (hS : 0 < S) (hR : R = (a : Int) % S) (W : World) : (binOp .rem t (.int .i64 a) (.int .i64 S)).run P W = .ok (.int .i64 R) W := by
  subst hR
  have h1 : ¬ S = 0 := by omega
  have h2 : (a : Int).tmod S = (a : Int) % S := Int.tmod_eq_emod_of_nonneg (by omega)
  simp [go_sem, h1, h2]
theorem pfxT_take {l : List Pt} {j : Nat} {p : Pt} (h : l[j]? = some p) : pfxT (l.take (j + 1)) = pfxT (l.take j) ++ fillL p.A (p.B + 1) := by
  rw [List.take_add_one, h]
  unfold pfxT
  simp
set_option maxRecDepth 100000 in
set_option maxHeartbeats 8000000 in
theorem rpfx_any (v : Value) (l : List Pt) (w : World) (hv : Pts w v l) (hn : Norm l) (hl : l.length ≤ 1000) : Calls Tryd.prog 8 #[v] w (GivesP (pfxT l) w) := by
  obtain ⟨i0, E0⟩ := elemP
  obtain ⟨A, c, rfl, hlc, hc⟩ := hv.form
  have HV := Go.Lib.hid hv
  have HI := Go.Lib.hid hn.ins
  have hb0 : Below w.heap.size w (w.alloc (.cells #[] 24)) := (Below.refl _ w).alloc (Nat.le_refl _) _
  have h0 : (w.alloc (.cells #[] 24)).ownsRow w.heap.size 24 2 (.slice (some ⟨w.heap.size, 0, none⟩) 0 0) 0 (pcells []) := own_blk2 (Nat.le_refl _) (heap_alloc_new _ _)
  have HB := Go.Lib.hid hb0
  have H0 := Go.Lib.hid h0
  clear hv hb0 h0 hn
  go_enter Tryd.func8, Tryd.ntmps8
  go_wp2
  go_loopw [3, 4] (fun v3 v4 wx => ∃ (i m : Nat) (B : Option Addr) (d : Nat), i ≤ l.length ∧ v4 = .int .i64 i ∧ v3 = .slice B m d ∧ Hid (m ≤ 70 * i) ∧ Hid (m = (pfxT (l.take i)).length) ∧ Hid (wx.ownsRow w.heap.size 24 2 (.slice B m d) m (pcells (pfxT (l.take i)))) ∧ Hid (Below w.heap.size w wx)) (fun _ v4 _ => l.length - (intOf v4).toNat)
  case atStart => exact ⟨0, 0, _, 0, Nat.zero_le _, rfl, rfl, Go.Lib.hid (Nat.zero_le _), Go.Lib.hid rfl, H0, HB⟩
  case round =>
    obtain ⟨i, m, B, d, hi, rfl, rfl, hml, hm, hown, hb⟩ := hrel
    by_cases hlt : i < l.length
    · obtain ⟨p, hp⟩ : ∃ p, l[i]? = some p := ⟨_, List.getElem?_eq_getElem hlt⟩
      have hip := HI.out p (List.mem_of_getElem? hp)
      unfold InT at hip
      obtain ⟨bl, off, rfl, hbl, k0, k1⟩ := (HV.out).at_ hp
      have HKC := Go.Lib.hid (fun (W : World) (h : Below w.heap.size w W) => (⟨(h.cell (p := ⟨bl, off + i * 2, none⟩) hbl).trans k0, (h.cell (p := ⟨bl, off + i * 2 + 1, none⟩) hbl).trans k1⟩ : W.cell? ⟨bl, off + i * 2, none⟩ = some (.int .i64 p.A) ∧ W.cell? ⟨bl, off + i * 2 + 1, none⟩ = some (.int .i64 p.B)))
      obtain ⟨c0, c1⟩ := HKC.out _ hb.out
      have z0 : (0 : Int) ≤ (i : Int) := by omega
      have z1 : (i : Int) < (l.length : Int) := by omega
      have z1' : i + 1 ≤ l.length := hlt
      have HT := Go.Lib.hid (pfxT_take hp)
      have HIP := Go.Lib.hid hip
      have hpe : p.B < 4294967296 := hip.2
      have hi1 : i < 1000 := by omega
      clear k0 k1 hbl hp hip hlt
      generalize pfxT (l.take i) = P at hm hown HT
      obtain ⟨pA, pB⟩ := p
      dsimp only at c0 c1 HKC HT HIP hpe
      obtain ⟨PB, hPB⟩ : ∃ x : Int, (pB : Int) = x := ⟨_, rfl⟩
      have hPB4 : PB ≤ 4294967295 := by omega
      have hPB0 : 0 ≤ PB := by omega
      rw [hPB] at c1 HKC
      have HPB := Go.Lib.hid hPB
      have HPE := Go.Lib.hid hpe
      clear hPB hpe
      go_wp2
      go_loopw [3, 5, 6] (fun v3 v5 v6 wx => ∃ (n a k f : Nat) (B : Option Addr) (d : Nat) (D : List Pf), v3 = .slice B n d ∧ v5 = .int .i64 a ∧ v6 = .int .i64 k ∧ Hid (k + f = 66) ∧ Hid (Room a (pB + 1) f) ∧ Hid (a ≤ pB + 1) ∧ Hid (D ++ fillL a (pB + 1) = fillL pA (pB + 1)) ∧ Hid (n = P.length + D.length) ∧ Hid (D.length = k) ∧ Hid (wx.ownsRow w.heap.size 24 2 (.slice B n d) n (pcells (P ++ D))) ∧ Hid (Below w.heap.size w wx)) (fun _ _ v6 _ => 70 - (intOf v6).toNat)
      case atStart => exact ⟨m, pA, 0, 66, B, d, [], rfl, rfl, rfl, Go.Lib.hid rfl, Go.Lib.hid (room_start (by have := HPE.out; omega)), Go.Lib.hid (Nat.le_succ_of_le HIP.out.1), Go.Lib.hid rfl, hm, Go.Lib.hid rfl, Go.Lib.hid (by rw [List.append_nil]; exact hown.out), hb⟩
      case round =>
        obtain ⟨n, a, k, f, B2, d2, D, rfl, rfl, rfl, hf, hroom, hae, hD, hn, hDk, hown2, hb2⟩ := hrel
        obtain ⟨c0, c1⟩ := HKC.out _ hb2.out
        have hn4 : n ≤ 100000 := by have h1 := hml.out; have h2 := hm.out; have h3 := hn.out; have h4 := hDk.out; have h5 := hf.out; omega
        by_cases hlt : a ≤ pB
        · have y0 : (a : Int) ≤ PB := by have := HPB.out; omega
          have hpe := HPE.out
          have hrs := room_step (e := pB + 1) (by omega) (by omega) hroom.out
          obtain ⟨g, hg, hroom2⟩ := hrs
          have y1 : (k : Int) < 70 := by have := hf.out; omega
          have HG := Go.Lib.hid hg
          have HR2 := Go.Lib.hid hroom2
          have HLT := Go.Lib.hid hlt
          clear hg hroom2 hroom hpe hlt
          go_wp2
          go_loopw [7, 8] (fun v7 v8 wx => ∃ (j s : Nat) (q : Int), v7 = .int .i64 q ∧ v8 = .int .i64 s ∧ Hid (q = 32 - (j : Int)) ∧ Hid (j ≤ 32) ∧ Hid (s = 2 ^ j) ∧ s ≤ 4294967296 ∧ 0 ≤ q ∧ q ≤ 32 ∧ Hid (a % 2 ^ j = 0 ∧ a + 2 ^ j ≤ pB + 1) ∧ wx = wr) (fun v7 _ _ => (intOf v7).toNat)
          case atStart => exact ⟨0, 1, 32, rfl, rfl, Go.Lib.hid (by omega), Go.Lib.hid (by omega), Go.Lib.hid rfl, by omega, by omega, by omega, Go.Lib.hid ⟨by simp [Nat.mod_one], by have := HLT.out; simp; omega⟩, rfl⟩
          case round =>
            obtain ⟨j, s, q, rfl, rfl, hq, hj, hs, hs4, hq0, hq32, hfit, rfl⟩ := hrel
            by_cases hj32 : j < 32
            · have y2 : 0 < q := by have := hq.out; omega
              have HJ := Go.Lib.hid hj32
              clear hj32
              have hs1 : 1 ≤ s := by have := hs.out; have := pow_pos j; omega
              by_cases hmod : (a : Int) % (2 * (s : Int)) = 0
              · by_cases hfi : (a : Int) + 2 * (s : Int) - 1 ≤ PB
                · have y6 : decide ((a : Int) + 2 * (s : Int) - 1 ≤ PB) = true := decide_eq_true hfi
                  have HM := Go.Lib.hid hmod
                  go_wp2
                  go_roundw
                  case rel =>
                    have h1 := hs.out
                    have h2 := hq.out
                    have h3 := HPB.out
                    have h4 := HM.out
                    have h5 := HJ.out
                    have h6 : a % (2 * s) = 0 := by exact_mod_cast h4
                    have h7 : 2 ^ (j + 1) = 2 * s := by rw [Nat.pow_succ, ← h1]; omega
                    exact ⟨j + 1, 2 * s, q - 1, by go_num, by go_num, Go.Lib.hid (by omega), Go.Lib.hid (by omega), Go.Lib.hid h7.symm, by omega, by omega, by omega, Go.Lib.hid ⟨by rw [h7]; exact h6, by rw [h7]; omega⟩, trivial⟩
                  case measure => simp [intOf]; omega
                · have y6 : decide ((a : Int) + 2 * (s : Int) - 1 ≤ PB) = false := decide_eq_false hfi
                  have HBK := Go.Lib.hid (show blk a (pB + 1) = j by
                    have h1 := hs.out
                    have h3 := HPB.out
                    exact blk_eq hj.out hfit.out.1 hfit.out.2 (.inr (.inr (by rw [Nat.pow_succ, ← h1]; omega))))
                  go_wp2_with (at_builtin; refine wpList_append_row rfl (.tmp 60) (.tmp 65) rfl E0 w.heap.size _ n (pcells (P ++ D)) rfl ?_ _ 1 [.int .u32 (a : Int), .int .i64 q] rfl ?_ ?_ (by unfold maxLen; omega) (by omega) ?_ (n + 1) rfl ?_; exact own_keep hown2.out ((Below.refl _ _).alloc (Nat.le_refl _) _); exact row_new2 _ _ _ _; exact ones2 _ _ _ _; exact (hb2.out.alloc hb2.out.size _).size; intro A1 c1 w4 hown1 hg1 hat1 hb1; have O4 := Go.Lib.hid hown1; have B4 := Go.Lib.hid ((hb2.out.alloc hb2.out.size _).trans hb1); clear hown1 hg1 hat1 hb1)
                  go_roundw
                  case rel =>
                    have g1 := hs.out
                    have g2 := hq.out
                    have g3 := hj.out
                    have g4 := HBK.out
                    have g5 := hfit.out.2
                    have hx : mk a j = ⟨a, q⟩ := by unfold mk; congr 1; omega
                    have hgo := fillL_go (a := a) (e := pB + 1) (by have := HLT.out; omega)
                    rw [g4, ← g1] at hgo
                    refine ⟨n + 1, a + s, k + 1, g, A1, c1, D ++ [mk a j], rfl, by go_num, by go_num, Go.Lib.hid (by have := hf.out; have := HG.out; omega), Go.Lib.hid (by have h := HR2.out; rw [g4, ← g1] at h; exact h), Go.Lib.hid (by omega), Go.Lib.hid (by rw [← hD.out, hgo, List.append_assoc]; rfl), Go.Lib.hid (by rw [List.length_append, hn.out]; rfl), Go.Lib.hid (by rw [List.length_append, hDk.out]; rfl), Go.Lib.hid (by rw [← List.append_assoc, hx]; exact own_snoc O4.out), B4⟩
                  case measure => simp [intOf]; omega
              · have y5 : ((a : Int) % (2 * (s : Int)) == 0) = false := by simp only [beq_eq_false_iff_ne, ne_eq]; exact hmod
                have HBK := Go.Lib.hid (show blk a (pB + 1) = j by
                  have h1 := hs.out
                  have h7 : 2 ^ (j + 1) = 2 * s := by rw [Nat.pow_succ, ← h1]; omega
                  exact blk_eq hj.out hfit.out.1 hfit.out.2 (.inr (.inl (by rw [h7]; exact fun e => hmod (by exact_mod_cast e)))))
                go_wp2_with (at_builtin; refine wpList_append_row rfl (.tmp 60) (.tmp 65) rfl E0 w.heap.size _ n (pcells (P ++ D)) rfl ?_ _ 1 [.int .u32 (a : Int), .int .i64 q] rfl ?_ ?_ (by unfold maxLen; omega) (by omega) ?_ (n + 1) rfl ?_; exact own_keep hown2.out ((Below.refl _ _).alloc (Nat.le_refl _) _); exact row_new2 _ _ _ _; exact ones2 _ _ _ _; exact (hb2.out.alloc hb2.out.size _).size; intro A1 c1 w4 hown1 hg1 hat1 hb1; have O4 := Go.Lib.hid hown1; have B4 := Go.Lib.hid ((hb2.out.alloc hb2.out.size _).trans hb1); clear hown1 hg1 hat1 hb1)
                go_roundw
                case rel =>
                  have g1 := hs.out
                  have g2 := hq.out
                  have g3 := hj.out
                  have g4 := HBK.out
                  have g5 := hfit.out.2
                  have hx : mk a j = ⟨a, q⟩ := by unfold mk; congr 1; omega
                  have hgo := fillL_go (a := a) (e := pB + 1) (by have := HLT.out; omega)
                  rw [g4, ← g1] at hgo
                  refine ⟨n + 1, a + s, k + 1, g, A1, c1, D ++ [mk a j], rfl, by go_num, by go_num, Go.Lib.hid (by have := hf.out; have := HG.out; omega), Go.Lib.hid (by have h := HR2.out; rw [g4, ← g1] at h; exact h), Go.Lib.hid (by omega), Go.Lib.hid (by rw [← hD.out, hgo, List.append_assoc]; rfl), Go.Lib.hid (by rw [List.length_append, hn.out]; rfl), Go.Lib.hid (by rw [List.length_append, hDk.out]; rfl), Go.Lib.hid (by rw [← List.append_assoc, hx]; exact own_snoc O4.out), B4⟩
                case measure => simp [intOf]; omega
            · have hj2 : j = 32 := by have := hj.out; omega
              have y2 : ¬ 0 < q := by have := hq.out; omega
              have y3 : decide (0 < q) = false := decide_eq_false y2
              have HBK := Go.Lib.hid (show blk a (pB + 1) = j from blk_eq hj.out hfit.out.1 hfit.out.2 (.inl hj2))
              clear hj32 hj2
              go_wp2_with (at_builtin; refine wpList_append_row rfl (.tmp 60) (.tmp 65) rfl E0 w.heap.size _ n (pcells (P ++ D)) rfl ?_ _ 1 [.int .u32 (a : Int), .int .i64 q] rfl ?_ ?_ (by unfold maxLen; omega) (by omega) ?_ (n + 1) rfl ?_; exact own_keep hown2.out ((Below.refl _ _).alloc (Nat.le_refl _) _); exact row_new2 _ _ _ _; exact ones2 _ _ _ _; exact (hb2.out.alloc hb2.out.size _).size; intro A1 c1 w4 hown1 hg1 hat1 hb1; have O4 := Go.Lib.hid hown1; have B4 := Go.Lib.hid ((hb2.out.alloc hb2.out.size _).trans hb1); clear hown1 hg1 hat1 hb1)
              go_roundw
              case rel =>
                have g1 := hs.out
                have g2 := hq.out
                have g3 := hj.out
                have g4 := HBK.out
                have g5 := hfit.out.2
                have hx : mk a j = ⟨a, q⟩ := by unfold mk; congr 1; omega
                have hgo := fillL_go (a := a) (e := pB + 1) (by have := HLT.out; omega)
                rw [g4, ← g1] at hgo
                refine ⟨n + 1, a + s, k + 1, g, A1, c1, D ++ [mk a j], rfl, by go_num, by go_num, Go.Lib.hid (by have := hf.out; have := HG.out; omega), Go.Lib.hid (by have h := HR2.out; rw [g4, ← g1] at h; exact h), Go.Lib.hid (by omega), Go.Lib.hid (by rw [← hD.out, hgo, List.append_assoc]; rfl), Go.Lib.hid (by rw [List.length_append, hn.out]; rfl), Go.Lib.hid (by rw [List.length_append, hDk.out]; rfl), Go.Lib.hid (by rw [← List.append_assoc, hx]; exact own_snoc O4.out), B4⟩
              case measure => simp [intOf]; omega
        · have y0 : ¬ ((a : Int) ≤ PB) := by have := HPB.out; omega
          have y1 : decide ((a : Int) ≤ PB) = false := decide_eq_false y0
          have HDD := Go.Lib.hid (show D = fillL pA (pB + 1) by rw [← hD.out, fillL_end (by omega), List.append_nil])
          clear hlt
          go_wp2
          go_roundw
          case rel => exact ⟨i + 1, n, B2, d2, z1', by go_num, rfl, Go.Lib.hid (by have h1 := hml.out; have h2 := hm.out; have h3 := hn.out; have h4 := hDk.out; have h5 := hf.out; omega), Go.Lib.hid (by rw [HT.out, List.length_append, ← HDD.out]; exact hn.out), Go.Lib.hid (by rw [HT.out, ← HDD.out]; exact hown2.out), hb2⟩
          case measure => simp [intOf]; omega
    · have z1 : decide ((i : Int) < (l.length : Int)) = false := decide_eq_false (by omega)
      have HJ := Go.Lib.hid (show l.take i = l from List.take_of_length_le (by omega))
      rw [HJ.out] at hm hown
      go_wp2
      go_ret
      exact ⟨B, d, by rw [← hm.out]; rfl, by rw [← hm.out]; exact hown.out, hb.out⟩
end Go.Proofs.YtgjdpmpbldofpaaDoor.Wlk
