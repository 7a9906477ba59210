/- walk.Tops: those that no other one covers. -/
import Derived.Test.YtgjdpmpbldofpaaDoorWlkTop
import Derived.Test.YtgjdpmpbldofpaaDoorWlkMem
import Derived.Test.YtgjdpmpbldofpaaDoorPkSort
namespace Go.Proofs.YtgjdpmpbldofpaaDoor.Wlk
open Go.RowKit Mem Pfx PR Oct

theorem oks_G {l : List Pf} (h : ∀ p ∈ l, G p) : Oks l := fun p hp => (h p hp).ok
theorem sort_is {l : List Pf} (h : Oks l) : Rising (sortP l) ∧ (∀ p, p ∈ sortP l ↔ p ∈ l ∧ good p = true) ∧ (∀ p ∈ sortP l, G p) := by
  obtain ⟨h1, h2⟩ := sortP_rising l [] List.Pairwise.nil
  have h3 : ∀ p, p ∈ sortP l ↔ p ∈ l ∧ good p = true := fun p => by
    unfold sortP
    rw [h2]
    exact ⟨fun h => h.elim (fun h => by cases h) id, .inr⟩
  exact ⟨h1, h3, fun p hp => ⟨((h3 p).1 hp).2, (h p ((h3 p).1 hp).1).1⟩⟩
theorem sort_len : ∀ (l out : List Pf), (l.foldl insP out).length ≤ out.length + l.length
  | [], _ => Nat.le_refl _
  | p :: l, out => by
    rw [List.foldl_cons]
    have h1 := sort_len l (insP out p)
    have h2 := insP_len out p
    rw [List.length_cons]
    omega
theorem sort_le (l : List Pf) : (sortP l).length ≤ l.length := by unfold sortP; simpa using sort_len l []
theorem topP_len (out : List Pf) (p : Pf) : (topP out p).length ≤ out.length + 1 := by
  unfold topP
  split
  · omega
  · simp
set_option maxHeartbeats 2000000 in
theorem tops_any (v : Value) (l : List Pf) (w : World) (hv : Pfxs w v l) (hl : l.length ≤ 100000) : Calls Tryd.prog 25 #[v] w (GivesP (topsL (sortP l)) w) := by
  obtain ⟨i0, E0⟩ := elemP
  have CS := Go.Lib.hid (nsort_any v l w hv hl)
  obtain ⟨s1, s2, s3⟩ := sort_is hv.2
  have HG := Go.Lib.hid s3
  have hle := sort_le l
  generalize sortP l = S at CS HG hle ⊢
  have hS : S.length ≤ 100000 := by omega
  clear hv s1 s2 s3 hle hl
  go_enter Tryd.func25, Tryd.ntmps25
  go_wp2_with (go_at_call 35; refine CS.out.mono ?_; rintro e w1 ⟨A, c, rfl, ho, hb⟩; have B1 := Go.Lib.hid hb; have SV := Go.Lib.hid (Pfxs.of_own ho (oks_G HG.out)); clear ho hb)
  go_loopw [3, 10] (fun v3 v10 wx => ∃ (j m : Nat) (A : Option Addr) (c : Nat), j ≤ S.length ∧ m ≤ j ∧ v10 = .int .i64 j ∧ v3 = .slice A m c ∧ Hid (m = (topsL (S.take j)).length) ∧ Hid (wx.ownsRow w1.heap.size 24 2 (.slice A m c) m (pcells (topsL (S.take j)))) ∧ Hid (∀ q ∈ topsL (S.take j), G q) ∧ Hid (Below w1.heap.size w1 wx)) (fun _ v10 _ => S.length - (intOf v10).toNat)
  case atStart => exact ⟨0, 0, none, 0, Nat.zero_le _, Nat.le_refl _, rfl, rfl, Go.Lib.hid rfl, Go.Lib.hid (own_nil2 _ _), Go.Lib.hid (fun q hq => by cases hq), Go.Lib.hid (Below.refl _ _)⟩
  case round =>
    obtain ⟨j, m, Ar, cr, hj, hmj, rfl, rfl, hm, hown, hgt, hb⟩ := hrel
    by_cases hlt : j < S.length
    · obtain ⟨p, hp⟩ : ∃ p, S[j]? = some p := ⟨_, List.getElem?_eq_getElem hlt⟩
      have gp := HG.out p (List.mem_of_getElem? hp)
      obtain ⟨b, off, rfl, hbl, k0, k1⟩ := (SV.out).at_ hp
      have c0 := (hb.out.cell (p := ⟨b, off + j * 2, none⟩) hbl).trans k0
      have c1 := (hb.out.cell (p := ⟨b, off + j * 2 + 1, none⟩) hbl).trans k1
      have z0 : (0 : Int) ≤ (j : Int) := by omega
      have z1 : (j : Int) < (S.length : Int) := by omega
      have HT := Go.Lib.hid (tops_take hp)
      have HGP := Go.Lib.hid gp
      obtain ⟨pa, pn⟩ := p
      generalize topsL (S.take j) = L at hm hown hgt HT
      clear k0 k1 hbl hp
      have hm4 : m ≤ 100000 := by omega
      have hr1 : Below wr.heap.size wr (wr.alloc (.cells #[.int .u32 (pa : Int), .int .i64 pn] 24)) := (Below.refl _ _).alloc (Nat.le_refl _) _
      obtain ⟨d0, d1⟩ := cells_two wr (.int .u32 (pa : Int)) (.int .i64 pn) 24
      have B2 := Go.Lib.hid (hb.out.trans (hr1.mono hb.out.size))
      have O2 := Go.Lib.hid (own_keep hown.out hr1)
      rcases Nat.eq_zero_or_pos m with h0 | h0
      · have y0 : ((m : Int) == 0) = true := by simp; omega
        have HL := Go.Lib.hid (show L = [] from List.eq_nil_of_length_eq_zero (by have := hm.out; omega))
        have HT2 := Go.Lib.hid (show topP L ⟨pa, pn⟩ = L ++ [⟨pa, pn⟩] from by rw [HL.out]; rfl)
        clear h0
        go_wp2_with fail
        generalize wr.alloc (.cells #[.int .u32 (pa : Int), .int .i64 pn] 24) = W2 at B2 O2 d0 d1 ⊢
        clear c0 c1 hr1
        go_quiet (fail)
        have B3 := Go.Lib.hid (B2.out.trans ((Mem.below_drewN W2 nq).mono B2.out.size))
        have O3 := Go.Lib.hid (own_keep O2.out (Mem.below_drewN W2 nq))
        go_wp2_with (at_builtin; refine wpList_append_row rfl (.tmp 28) (.tmp 30) rfl E0 w1.heap.size _ m (pcells L) rfl ?_ _ 1 [.int .u32 pa, .int .i64 pn] rfl ?_ ?_ (by unfold maxLen; omega) (by omega) ?_ (m + 1) rfl ?_; exact own_keep O3.out ((Below.refl _ _).alloc (Nat.le_refl _) _); exact row_new2 _ _ _ _; exact ones2 _ _ _ _; exact (B3.out.alloc B3.out.size _).size; intro A1 c1 w4 hown1 hg1 hat1 hb1; have O4 := Go.Lib.hid hown1; have B4 := Go.Lib.hid ((B3.out.alloc B3.out.size _).trans hb1); clear hown1 hg1 hat1 hb1)
        go_roundw
        case rel => exact ⟨j + 1, m + 1, A1, c1, hlt, by omega, by go_num, rfl, Go.Lib.hid (by rw [HT.out, HT2.out, hm.out, List.length_append]; rfl), Go.Lib.hid (by rw [HT.out, HT2.out]; exact own_snoc O4.out), Go.Lib.hid (by rw [HT.out, HT2.out]; intro q hq; rcases List.mem_append.1 hq with hq | hq; exact hgt.out q hq; rw [List.mem_singleton] at hq; rw [hq]; exact HGP.out), B4⟩
        case measure => simp [intOf]; omega
      · obtain ⟨k, rfl⟩ : ∃ k, m = k + 1 := ⟨m - 1, by omega⟩
        have y0 : (((k + 1 : Nat) : Int) == 0) = false := by simp; omega
        have y1 : IntKind.i64.wrap (((k + 1 : Nat) : Int) - 1) = (k : Int) := by rw [IntKind.wrap_i64]; omega
        have y2 : (0 : Int) ≤ (k : Int) := by omega
        have y3 : (k : Int) < ((k + 1 : Nat) : Int) := by omega
        obtain ⟨q, hq, hlast⟩ := last_at hm.out.symm
        have gq := hgt.out q (List.mem_of_getElem? hq)
        have hOP := Pfxs.of_own (by rw [← hm.out]; exact O2.out) (oks_G hgt.out)
        obtain ⟨bq, oq, rfl, hbq, e0, e1⟩ := hOP.at_ hq
        have CC := fun W => covers_any q.a q.n pa pn gq.2 gp.2 W
        rw [show coversB q.a q.n pa pn = cov q ⟨pa, pn⟩ from rfl] at CC
        obtain ⟨qa, qn⟩ := q
        cases hc : cov ⟨qa, qn⟩ ⟨pa, pn⟩ with
        | true =>
          rw [hc] at CC
          have HT2 := Go.Lib.hid (show topP L ⟨pa, pn⟩ = L from by unfold topP; rw [hlast]; simp only [Option.any_some]; rw [if_pos hc])
          have HCC := Go.Lib.hid CC
          clear hc CC hq hlast gq hOP gp
          generalize hn1 : k + 1 = m at *
          go_wp2_with fail
          generalize wr.alloc (.cells #[.int .u32 (pa : Int), .int .i64 pn] 24) = W2 at B2 O2 d0 d1 e0 e1 hbq ⊢
          have CV := inRegion HCC.out W2
          have k0 := cell_regrown d0
          have k1 := cell_regrown d1
          have k2 := cell_regrown e0
          have k3 := cell_regrown e1
          clear c0 c1 hr1 d0 d1 e0 e1
          refine wp_region_quiet_below (by kernel_rfl) (by kernel_rfl) ?_
          repeat (first | go_big_quiet_step (exact CV _ _) | quiet_step (exact CV _ _))
          refine wpQuiet_nil ?_
          intro _ hw'
          obtain ⟨⟨dq, osq⟩, hw''⟩ := hw'
          subst hw''
          have B3 := Go.Lib.hid (B2.out.trans ((below_regrown W2 dq osq).mono B2.out.size))
          have O3 := Go.Lib.hid (own_keep O2.out (below_regrown W2 dq osq))
          go_wp2
          go_roundw
          case rel => exact ⟨j + 1, m, _, _, hlt, by omega, by go_num, rfl, Go.Lib.hid (by rw [HT.out, HT2.out]; exact hm.out), Go.Lib.hid (by rw [HT.out, HT2.out]; exact O3.out), Go.Lib.hid (by rw [HT.out, HT2.out]; exact hgt.out), B3⟩
          case measure => simp [intOf]; omega
        | false =>
          rw [hc] at CC
          have HT2 := Go.Lib.hid (show topP L ⟨pa, pn⟩ = L ++ [⟨pa, pn⟩] from by unfold topP; rw [hlast]; simp only [Option.any_some]; rw [if_neg (by rw [hc]; decide)])
          have HCC := Go.Lib.hid CC
          clear hc CC hq hlast gq hOP gp
          generalize hn1 : k + 1 = m at *
          go_wp2_with fail
          generalize wr.alloc (.cells #[.int .u32 (pa : Int), .int .i64 pn] 24) = W2 at B2 O2 d0 d1 e0 e1 hbq ⊢
          have CV := inRegion HCC.out W2
          have k0 := cell_regrown d0
          have k1 := cell_regrown d1
          have k2 := cell_regrown e0
          have k3 := cell_regrown e1
          clear c0 c1 hr1 d0 d1 e0 e1
          refine wp_region_quiet_below (by kernel_rfl) (by kernel_rfl) ?_
          repeat (first | go_big_quiet_step (exact CV _ _) | quiet_step (exact CV _ _))
          refine wpQuiet_nil ?_
          intro _ hw'
          obtain ⟨⟨dq, osq⟩, hw''⟩ := hw'
          subst hw''
          have B3 := Go.Lib.hid (B2.out.trans ((below_regrown W2 dq osq).mono B2.out.size))
          have O3 := Go.Lib.hid (own_keep O2.out (below_regrown W2 dq osq))
          have d0 := k0 dq osq
          have d1 := k1 dq osq
          clear k0 k1 k2 k3 CV
          generalize Go.Sort.grow (redrawn W2 dq) osq = W3 at B3 O3 d0 d1 ⊢
          go_wp2_with (at_builtin; refine wpList_append_row rfl (.tmp 28) (.tmp 30) rfl E0 w1.heap.size _ m (pcells L) rfl ?_ _ 1 [.int .u32 pa, .int .i64 pn] rfl ?_ ?_ (by unfold maxLen; omega) (by omega) ?_ (m + 1) rfl ?_; exact own_keep O3.out ((Below.refl _ _).alloc (Nat.le_refl _) _); exact row_new2 _ _ _ _; exact ones2 _ _ _ _; exact (B3.out.alloc B3.out.size _).size; intro A1 c1 w4 hown1 hg1 hat1 hb1; have O4 := Go.Lib.hid hown1; have B4 := Go.Lib.hid ((B3.out.alloc B3.out.size _).trans hb1); clear hown1 hg1 hat1 hb1)
          go_roundw
          case rel => exact ⟨j + 1, m + 1, A1, c1, hlt, by omega, by go_num, rfl, Go.Lib.hid (by rw [HT.out, HT2.out, hm.out, List.length_append]; rfl), Go.Lib.hid (by rw [HT.out, HT2.out]; exact own_snoc O4.out), Go.Lib.hid (by rw [HT.out, HT2.out]; intro q hq; rcases List.mem_append.1 hq with hq | hq; exact hgt.out q hq; rw [List.mem_singleton] at hq; rw [hq]; exact HGP.out), B4⟩
          case measure => simp [intOf]; omega
    · have z1 : decide ((j : Int) < (S.length : Int)) = false := decide_eq_false (by omega)
      have HJ := Go.Lib.hid (show S.take j = S from List.take_of_length_le (by omega))
      rw [HJ.out] at hm hown
      go_wp2
      go_ret
      exact ⟨Ar, cr, by rw [← hm.out]; rfl, by rw [← hm.out]; exact Mem.own_base hown.out B1.out.size, B1.out.trans (hb.out.mono B1.out.size)⟩
end Go.Proofs.YtgjdpmpbldofpaaDoor.Wlk
