/- The walk of the law WalkSteps, of a good prefix: depths of the class E. -/
import Derived.Test.YtgjdpmpbldofpaaWlkStepsM
import Derived.Test.YtgjdpmpbldofpaaWlkStepsP
import Derived.Test.YtgjdpmpbldofpaaWlkLives
import Derived.Test.YtgjdpmpbldofpaaPfxWalkC
import Derived.Lib.QuietBelow
namespace Go.Proofs.Ytgjdpmpbldofpaa.Wlk
open Go.RowKit Go.Sort Mem Pfx PR Oct

set_option maxRecDepth 100000 in
set_option maxHeartbeats 16000000 in
theorem steps_Ea (p : Pf) (d : Int) (q : Pf) (w : World) (gp : G p) (hq : q.ok) (hd : 8 < d) (D : Nat) (hDV : (D : Int) = 8) (hdeep : deepN d = D) (hab : (D : Int) ≤ 32 - p.n) : Calls Try.prog 4 #[.agg #[.int .u32 p.a, .int .i64 p.n], .int .i64 d, .agg #[.int .u32 q.a, .int .i64 q.n]] w (Tells (.bool true) w) := by
  have CS := Go.Lib.hid (fun W => steps_good p gp d W)
  rw [hdeep] at CS
  have hD8 : D ≤ 8 := by rw [← hdeep]; exact deep_le _
  have CG := Go.Lib.hid (fun W => refGood_any p.a p.n gp.2 W)
  rw [show goodB p.a p.n = true from gp.1] at CG
  have HGP := Go.Lib.hid gp
  have HQK := Go.Lib.hid hq
  have hp9 : 2 ^ (D + 1) ≤ 2 ^ 9 := pow_mono (by omega)
  rw [show (2 : Nat) ^ 9 = 512 by decide] at hp9
  have HSL := Go.Lib.hid (show (stepsL D p).length < 512 from Nat.lt_of_lt_of_le (steps_len D p) hp9)
  have HSI := Go.Lib.hid (steps_in D p gp)
  have HRI := Go.Lib.hid (steps_rising D p gp)
  have HAN := Go.Lib.hid (any_is gp hq D)
  have hpl := gp.len
  obtain ⟨K, hK⟩ : ∃ K : Nat, K = D := ⟨_, rfl⟩
  have hK8 : K ≤ 8 := by omega
  have HLN := Go.Lib.hid (show (stepsL D p).length = 2 ^ (K + 1) - 1 from cnt_end gp (i := K + 1) (by omega) (.inl (by omega)) (.inr (by omega)))
  have HKV := Go.Lib.hid (show (∀ i : Nat, i ≤ K → (i : Int) ≤ 8 ∧ p.n + (i : Int) ≤ 32) ∧ (¬ (((K + 1 : Nat) : Int) ≤ 8)) from ⟨fun i hi => ⟨by omega, by omega⟩, by omega⟩)
  have HB := Go.Lib.hid (below_new2 w (.cells #[.int .u32 (p.a : Int), .int .i64 p.n] 35) (.cells #[.int .u32 (q.a : Int), .int .i64 q.n] 35))
  obtain ⟨c0, c1⟩ := cells_two w (.int .u32 (p.a : Int)) (.int .i64 p.n) 35
  replace c0 := keeps (below_new _ (.cells #[.int .u32 (q.a : Int), .int .i64 q.n] 35)) c0
  replace c1 := keeps (below_new _ (.cells #[.int .u32 (q.a : Int), .int .i64 q.n] 35)) c1
  obtain ⟨e0, e1⟩ := cells_two (w.alloc (.cells #[.int .u32 (p.a : Int), .int .i64 p.n] 35)) (.int .u32 (q.a : Int)) (.int .i64 q.n) 35
  rw [show (w.alloc (.cells #[.int .u32 (p.a : Int), .int .i64 p.n] 35)).heap.size = w.heap.size + 1 by simp] at e0 e1
  have HPQ := Go.Lib.hid (fun (r : Pf) (hr : r ∈ stepsL D p) => show G r ∧ cov p r = true ∧ r.n - p.n ≤ (D : Int) from by
    obtain ⟨h1, h2, h3⟩ := (steps_in D p gp r).1 hr
    have := h1.len
    refine ⟨h1, h2, ?_⟩
    unfold ex at h3
    omega)
  generalize stepsL D p = S at CS HSL HSI HRI HAN HLN HPQ
  obtain ⟨hp0, hp1⟩ := hpl
  obtain ⟨pn, hpn⟩ : ∃ pn, pn = p.n := ⟨_, rfl⟩
  have HDV := Go.Lib.hid hDV
  obtain ⟨pa, pn'⟩ := p
  obtain ⟨qa, qn⟩ := q
  dsimp only at c0 c1 e0 e1 CS CG HB hp0 hp1 HAN HKV HPQ hpn ⊢
  subst hpn
  have t0 : 4 < d := by omega
  have t1 : ¬ d ≤ 8 := by omega
  have t2 : decide (d ≤ 8) = false := decide_eq_false t1
  have t3 : ¬ d < 0 := by omega
  have t4 : decide (d < 0) = false := decide_eq_false t3
  have T0 := Go.Lib.hid True.intro
  clear hp9 hK hab hdeep hDV hq gp
  go_enter Try.func4, Try.ntmps4
  go_wp2_with (first
    | (go_at_call 16; have tok := T0.out; refine (CS.out _).mono ?_; rintro e w1 ⟨A, c, rfl, ho, hb⟩; have SV := Go.Lib.hid (Pfxs.of_own ho (oks_G (fun r hr => (HPQ.out r hr).1))); replace c0 := keeps hb c0; replace c1 := keeps hb c1; replace e0 := keeps hb e0; replace e1 := keeps hb e1; replace HB := Go.Lib.hid (Pfx.Below.tr HB.out hb); clear ho hb tok T0; have T1 := Go.Lib.hid True.intro)
    | (go_at_call 17; have tok := T1.out; refine (CG.out _).mono ?_; rintro e w2 ⟨rfl, hb⟩; replace SV := Go.Lib.hid (SV.out.keep hb); replace c0 := keeps hb c0; replace c1 := keeps hb c1; replace e0 := keeps hb e0; replace e1 := keeps hb e1; replace HB := Go.Lib.hid (Pfx.Below.tr HB.out hb); clear hb tok T1))
  go_loopw [8, 9, 10] (fun v8 v9 v10 wx => ∃ i n s : Nat, i ≤ K + 1 ∧ n ≤ 511 ∧ s ≤ 512 ∧ v10 = .int .i64 i ∧ v8 = .int .i64 n ∧ v9 = .int .i64 s ∧ Hid (n = 2 ^ i - 1 ∧ s = 2 ^ i) ∧ wx = w2) (fun _ _ v10 _ => 20 - (intOf v10).toNat)
  case atStart => exact ⟨0, 0, 1, by omega, by omega, by omega, rfl, rfl, rfl, Go.Lib.hid ⟨rfl, rfl⟩, rfl⟩
  case round =>
    obtain ⟨i, n, s, hi, hn, hs, rfl, rfl, rfl, hns, rfl⟩ := hrel
    by_cases hik : i ≤ K
    · obtain ⟨x0, x1⟩ := HKV.out.1 i hik
      have x2 : decide ((i : Int) ≤ 8) = true := decide_eq_true x0
      have x3 : decide (pn + (i : Int) ≤ 32) = true := decide_eq_true x1
      have hps : 2 ^ (i + 1) ≤ 2 ^ 9 := pow_mono (by omega)
      rw [show (2 : Nat) ^ 9 = 512 by decide, Nat.pow_succ, ← hns.out.2] at hps
      have hnb : n + s ≤ 511 := by have h1 := hns.out.1; have h2 := hns.out.2; have := pow_pos i; omega
      go_wp2
      go_roundw
      case rel => exact ⟨i + 1, n + s, 2 * s, by omega, by omega, by omega, by go_num, by go_num, by go_num, Go.Lib.hid ⟨by rw [Nat.pow_succ]; have h1 := hns.out.1; have h2 := hns.out.2; have := pow_pos i; omega, by rw [Nat.pow_succ]; have h2 := hns.out.2; omega⟩, trivial⟩
      case measure => simp [intOf]; omega
    · obtain rfl : i = K + 1 := by omega
      have HN := Go.Lib.hid (show n = S.length by rw [HLN.out]; exact hns.out.1)
      have x0 : ¬ (((K + 1 : Nat) : Int) ≤ 8) := by have := HKV.out.2; omega
      have x1 : decide (((K + 1 : Nat) : Int) ≤ 8) = false := decide_eq_false x0
      obtain ⟨k1, hk1⟩ : ∃ k1 : Nat, k1 = K + 1 := ⟨_, rfl⟩
      have HNS := HN
      obtain ⟨wo, hwo⟩ : ∃ x, x = wr := ⟨_, rfl⟩
      subst hwo
      have hlw := block_lt_of_cell c0
      have hlq := block_lt_of_cell e0
      clear HN
      go_wp2
      go_loopw [11, 12] (fun v11 v12 wx => ∃ (i : Nat) (b : Bool), i ≤ S.length ∧ v12 = .int .i64 i ∧ v11 = .bool b ∧ Hid (b = (S.take i).any (fun r => sameB r ⟨qa, qn⟩)) ∧ Hid (Below wo.heap.size wo wx)) (fun _ v12 _ => S.length - (intOf v12).toNat)
      case atStart => exact ⟨0, false, Nat.zero_le _, rfl, rfl, Go.Lib.hid rfl, Go.Lib.hid (Below.refl _ _)⟩
      case round =>
        obtain ⟨i, b, hi2, rfl, rfl, hbq, hb⟩ := hrel
        by_cases hlt : i < S.length
        · obtain ⟨r, hr⟩ : ∃ r, S[i]? = some r := ⟨_, List.getElem?_eq_getElem hlt⟩
          obtain ⟨gr, hcv, hrd⟩ := HPQ.out r (List.mem_of_getElem? hr)
          have hrow := SV.out.keep hb.out
          obtain ⟨br, ro, rfl, hbr, k0, k1'⟩ := hrow.at_ hr
          have z0 : (0 : Int) ≤ (i : Int) := by omega
          have z1 : (i : Int) < (S.length : Int) := by omega
          have z1' : i + 1 ≤ S.length := hlt
          have r0 := cell_regrown k0
          have r1 := cell_regrown k1'
          have r2 := cell_regrown ((hb.out.cell (p := ⟨w.heap.size + 1, 0, none⟩) hlq).trans e0)
          have r3 := cell_regrown ((hb.out.cell (p := ⟨w.heap.size + 1, 1, none⟩) hlq).trans e1)
          have r4 := cell_regrown ((hb.out.cell (p := ⟨w.heap.size, 0, none⟩) hlw).trans c0)
          have r5 := cell_regrown ((hb.out.cell (p := ⟨w.heap.size, 1, none⟩) hlw).trans c1)
          have CV := inRegion (fun W => refCovers_any pa pn r.a r.n HGP.out.2 gr.2 W) wr
          rw [show coversB pa pn r.a r.n = true from hcv] at CV
          have HAT := Go.Lib.hid (any_take (q := ⟨qa, qn⟩) hr)
          have hrl := gr.len
          obtain ⟨hrl0, hrl1⟩ := hrl
          have yD : ¬ (8 < r.n - pn) := by have := HDV.out; omega
          have yE : decide (8 < r.n - pn) = false := decide_eq_false yD
          have hS512 := HSL.out
          rcases Nat.eq_zero_or_pos i with h0 | h0
          · obtain ⟨ra, rn⟩ := r
            dsimp only at r0 r1 hrl0 hrl1 yD yE CV
            have y0 : ¬ 0 < i := by omega
            have y1 : decide (0 < i) = false := decide_eq_false y0
            clear hr gr hcv hrd hrow hbr k0 k1' h0 hlt
            go_wp2
            refine wp_region_quiet_below (by kernel_rfl) (by kernel_rfl) ?_
            repeat (first | go_big_quiet_step (exact CV _ _) | quiet_step (exact CV _ _))
            refine wpQuiet_nil ?_
            intro _ hw'
            obtain ⟨⟨dq, osq⟩, hw2⟩ := hw'
            subst hw2
            have B3 := Go.Lib.hid (hb.out.trans ((below_regrown wr dq osq).mono hb.out.size))
            have x0 := r0 dq osq
            have x1 := r1 dq osq
            have x2 := r2 dq osq
            have x3 := r3 dq osq
            clear r0 r1 r2 r3 r4 r5 CV yD yE y0 y1
            generalize Go.Sort.grow (redrawn wr dq) osq = W3 at B3 x0 x1 x2 x3 ⊢
            obtain ⟨bA, hbA⟩ : ∃ x, x = decide (ra = qa) := ⟨_, rfl⟩
            obtain ⟨bN, hbN⟩ : ∃ x, x = decide (rn = qn) := ⟨_, rfl⟩
            have yA : ((ra : Int) == (qa : Int)) = bA := by rw [hbA]; exact eqN _ _
            have yN : (rn == qn) = bN := by rw [hbN]; exact eqI _ _
            have HSB := Go.Lib.hid (show sameB ⟨ra, rn⟩ ⟨qa, qn⟩ = (bA && bN) by rw [hbA, hbN]; rfl)
            clear hbA hbN
            cases b with
            | true =>
              go_wp2
              refine wp_region_quiet_below (by kernel_rfl) (by kernel_rfl) ?_
              repeat (first | go_big_quiet_step (fail) | quiet_step (fail))
              refine wpQuiet_nil ?_
              intro _ hw'
              obtain ⟨⟨dq, osq⟩, hw2⟩ := hw'
              subst hw2
              go_wp2
              go_roundw
              case rel => exact ⟨i + 1, true, z1', by go_num, rfl, Go.Lib.hid (by rw [HAT.out, ← hbq.out]; rfl), Go.Lib.hid (B3.out.trans ((below_regrown W3 dq osq).mono B3.out.size))⟩
              case measure => simp [intOf]; omega
            | false =>
              rcases bA with _ | _ <;> rcases bN with _ | _
              all_goals
                have v0 := cell_regrown x0
                have v1 := cell_regrown x1
                have v2 := cell_regrown x2
                have v3 := cell_regrown x3
                go_wp2
                refine wp_region_quiet_below (by kernel_rfl) (by kernel_rfl) ?_
                repeat (first | go_big_quiet_step (fail) | quiet_step (fail))
                refine wpQuiet_nil ?_
                intro _ hw'
                obtain ⟨⟨dq, osq⟩, hw2⟩ := hw'
                subst hw2
                go_wp2
                go_roundw
                case rel => exact ⟨i + 1, _, z1', by go_num, rfl, Go.Lib.hid (by rw [HAT.out, ← hbq.out, HSB.out]; rfl), Go.Lib.hid (B3.out.trans ((below_regrown W3 dq osq).mono B3.out.size))⟩
                case measure => simp [intOf]; omega
          · obtain ⟨k, hik⟩ : ∃ k, i = k + 1 := ⟨i - 1, by omega⟩
            obtain ⟨t, ht⟩ : ∃ t, S[k]? = some t := ⟨_, List.getElem?_eq_getElem (by omega)⟩
            obtain ⟨br2, ro2, e2, hbr2, u0, u1⟩ := hrow.at_ ht
            injection e2 with e2
            injection e2 with e2 e3
            subst e2 e3
            have r6 := cell_regrown u0
            have r7 := cell_regrown u1
            have CC := inRegion (fun W => refCmp_any t.a t.n r.a r.n W) wr
            rw [ahead_cmp (rising_at HRI.out ht (by rw [← hik]; exact hr))] at CC
            obtain ⟨ra, rn⟩ := r
            obtain ⟨ta, tn⟩ := t
            dsimp only at r0 r1 r6 r7 hrl0 hrl1 yD yE CV CC
            have y0 : 0 < i := by omega
            have y1 : decide (0 < i) = true := decide_eq_true y0
            have y2 : IntKind.i64.wrap ((i : Int) - 1) = (k : Int) := by rw [IntKind.wrap_i64]; omega
            have y3 : (0 : Int) ≤ (k : Int) := by omega
            have y4 : (k : Int) < (S.length : Int) := by omega
            clear hr gr hcv hrd hrow hbr k0 k1' h0 hlt ht hbr2 u0 u1 hik
            go_wp2
            refine wp_region_quiet_below (by kernel_rfl) (by kernel_rfl) ?_
            repeat (first | go_big_quiet_step (exact CV _ _) | quiet_step (exact CV _ _) | go_big_quiet_step (exact CC _ _) | quiet_step (exact CC _ _))
            refine wpQuiet_nil ?_
            intro _ hw'
            obtain ⟨⟨dq, osq⟩, hw2⟩ := hw'
            subst hw2
            have B3 := Go.Lib.hid (hb.out.trans ((below_regrown wr dq osq).mono hb.out.size))
            have x0 := r0 dq osq
            have x1 := r1 dq osq
            have x2 := r2 dq osq
            have x3 := r3 dq osq
            clear r0 r1 r2 r3 r4 r5 r6 r7 CV CC yD yE y0 y1 y2 y3 y4
            generalize Go.Sort.grow (redrawn wr dq) osq = W3 at B3 x0 x1 x2 x3 ⊢
            obtain ⟨bA, hbA⟩ : ∃ x, x = decide (ra = qa) := ⟨_, rfl⟩
            obtain ⟨bN, hbN⟩ : ∃ x, x = decide (rn = qn) := ⟨_, rfl⟩
            have yA : ((ra : Int) == (qa : Int)) = bA := by rw [hbA]; exact eqN _ _
            have yN : (rn == qn) = bN := by rw [hbN]; exact eqI _ _
            have HSB := Go.Lib.hid (show sameB ⟨ra, rn⟩ ⟨qa, qn⟩ = (bA && bN) by rw [hbA, hbN]; rfl)
            clear hbA hbN
            cases b with
            | true =>
              go_wp2
              refine wp_region_quiet_below (by kernel_rfl) (by kernel_rfl) ?_
              repeat (first | go_big_quiet_step (fail) | quiet_step (fail))
              refine wpQuiet_nil ?_
              intro _ hw'
              obtain ⟨⟨dq, osq⟩, hw2⟩ := hw'
              subst hw2
              go_wp2
              go_roundw
              case rel => exact ⟨i + 1, true, z1', by go_num, rfl, Go.Lib.hid (by rw [HAT.out, ← hbq.out]; rfl), Go.Lib.hid (B3.out.trans ((below_regrown W3 dq osq).mono B3.out.size))⟩
              case measure => simp [intOf]; omega
            | false =>
              rcases bA with _ | _ <;> rcases bN with _ | _
              all_goals
                have v0 := cell_regrown x0
                have v1 := cell_regrown x1
                have v2 := cell_regrown x2
                have v3 := cell_regrown x3
                go_wp2
                refine wp_region_quiet_below (by kernel_rfl) (by kernel_rfl) ?_
                repeat (first | go_big_quiet_step (fail) | quiet_step (fail))
                refine wpQuiet_nil ?_
                intro _ hw'
                obtain ⟨⟨dq, osq⟩, hw2⟩ := hw'
                subst hw2
                go_wp2
                go_roundw
                case rel => exact ⟨i + 1, _, z1', by go_num, rfl, Go.Lib.hid (by rw [HAT.out, ← hbq.out, HSB.out]; rfl), Go.Lib.hid (B3.out.trans ((below_regrown W3 dq osq).mono B3.out.size))⟩
                case measure => simp [intOf]; omega
        · have x1 : decide ((i : Int) < (S.length : Int)) = false := decide_eq_false (by omega)
          have hbv : b = (cov ⟨pa, pn⟩ ⟨qa, qn⟩ && decide (qn - pn ≤ (D : Int))) := by rw [hbq.out, List.take_of_length_le (by omega)]; exact HAN.out
          have CQ := Go.Lib.hid (fun W => refCovers_any pa pn qa qn HGP.out.2 HQK.out.1 W)
          rw [show coversB pa pn qa qn = cov ⟨pa, pn⟩ ⟨qa, qn⟩ from rfl] at CQ
          replace c0 := (hb.out.cell (p := ⟨w.heap.size, 0, none⟩) hlw).trans c0
          replace c1 := (hb.out.cell (p := ⟨w.heap.size, 1, none⟩) hlw).trans c1
          replace e0 := (hb.out.cell (p := ⟨w.heap.size + 1, 0, none⟩) hlq).trans e0
          replace e1 := (hb.out.cell (p := ⟨w.heap.size + 1, 1, none⟩) hlq).trans e1
          have HBX := Go.Lib.hid (HB.out.trans (hb.out.mono HB.out.size))
          have HSN := HNS.out
          rw [HSN]
          cases hcq : cov ⟨pa, pn⟩ ⟨qa, qn⟩ with
          | false =>
            rw [hcq] at CQ hbv
            rw [Bool.false_and] at hbv
            subst hbv
            clear hbq hcq HSN
            go_wp2_with (first
              | (go_at_call 13; refine (CQ.out _).mono ?_; rintro e w5 ⟨rfl, h5⟩; replace HBX := Go.Lib.hid (Pfx.Below.tr HBX.out h5); clear h5)
              | (go_at_call 15; refine (lives_any _).mono ?_; rintro e w6 ⟨rfl, h6⟩; replace HBX := Go.Lib.hid (HBX.out.trans (h6.mono HBX.out.size)); clear h6))
            go_ret
            exact ⟨rfl, HBX.out⟩
          | true =>
            have gq := cov_ok hcq HQK.out
            obtain ⟨q0, q1⟩ := gq.len
            dsimp only at q0 q1
            rw [hcq] at CQ hbv
            rw [Bool.true_and] at hbv
            by_cases hqd : qn - pn ≤ (D : Int)
            focus
              rw [decide_eq_true hqd] at hbv
              have yq : qn - pn ≤ 8 := (by have := HDV.out; omega)
              have yr : decide (qn - pn ≤ 8) = true := decide_eq_true yq
            rotate_left
            focus
              rw [decide_eq_false hqd] at hbv
              have yq : ¬ (qn - pn ≤ 8) := (by have := HDV.out; omega)
              have yr : decide (qn - pn ≤ 8) = false := decide_eq_false yq
            all_goals
              subst hbv
              clear hbq hcq HSN gq hqd
              go_wp2_with (first
                | (go_at_call 13; refine (CQ.out _).mono ?_; rintro e w5 ⟨rfl, h5⟩; replace c0 := keeps h5 c0; replace c1 := keeps h5 c1; replace e0 := keeps h5 e0; replace e1 := keeps h5 e1; replace HBX := Go.Lib.hid (Pfx.Below.tr HBX.out h5); clear h5)
                | (go_at_call 15; refine (lives_any _).mono ?_; rintro e w6 ⟨rfl, h6⟩; replace HBX := Go.Lib.hid (HBX.out.trans (h6.mono HBX.out.size)); clear h6))
              go_ret
              exact ⟨rfl, HBX.out⟩
set_option maxRecDepth 100000 in
set_option maxHeartbeats 16000000 in
theorem steps_Eb (p : Pf) (d : Int) (q : Pf) (w : World) (gp : G p) (hq : q.ok) (hd : 8 < d) (D : Nat) (hDV : (D : Int) = 8) (hdeep : deepN d = D) (hab : 32 - p.n < (D : Int)) : Calls Try.prog 4 #[.agg #[.int .u32 p.a, .int .i64 p.n], .int .i64 d, .agg #[.int .u32 q.a, .int .i64 q.n]] w (Tells (.bool true) w) := by
  have CS := Go.Lib.hid (fun W => steps_good p gp d W)
  rw [hdeep] at CS
  have hD8 : D ≤ 8 := by rw [← hdeep]; exact deep_le _
  have CG := Go.Lib.hid (fun W => refGood_any p.a p.n gp.2 W)
  rw [show goodB p.a p.n = true from gp.1] at CG
  have HGP := Go.Lib.hid gp
  have HQK := Go.Lib.hid hq
  have hp9 : 2 ^ (D + 1) ≤ 2 ^ 9 := pow_mono (by omega)
  rw [show (2 : Nat) ^ 9 = 512 by decide] at hp9
  have HSL := Go.Lib.hid (show (stepsL D p).length < 512 from Nat.lt_of_lt_of_le (steps_len D p) hp9)
  have HSI := Go.Lib.hid (steps_in D p gp)
  have HRI := Go.Lib.hid (steps_rising D p gp)
  have HAN := Go.Lib.hid (any_is gp hq D)
  have hpl := gp.len
  obtain ⟨K, hK⟩ : ∃ K : Nat, K = (32 - p.n).toNat := ⟨_, rfl⟩
  have hK8 : K ≤ 8 := by omega
  have HLN := Go.Lib.hid (show (stepsL D p).length = 2 ^ (K + 1) - 1 from cnt_end gp (i := K + 1) (by omega) (.inr (by omega)) (.inr (by omega)))
  have HKV := Go.Lib.hid (show (∀ i : Nat, i ≤ K → (i : Int) ≤ 8 ∧ p.n + (i : Int) ≤ 32) ∧ (((K + 1 : Nat) : Int) ≤ 8 ∧ ¬ (p.n + ((K + 1 : Nat) : Int) ≤ 32)) from ⟨fun i hi => ⟨by omega, by omega⟩, by omega⟩)
  have HB := Go.Lib.hid (below_new2 w (.cells #[.int .u32 (p.a : Int), .int .i64 p.n] 35) (.cells #[.int .u32 (q.a : Int), .int .i64 q.n] 35))
  obtain ⟨c0, c1⟩ := cells_two w (.int .u32 (p.a : Int)) (.int .i64 p.n) 35
  replace c0 := keeps (below_new _ (.cells #[.int .u32 (q.a : Int), .int .i64 q.n] 35)) c0
  replace c1 := keeps (below_new _ (.cells #[.int .u32 (q.a : Int), .int .i64 q.n] 35)) c1
  obtain ⟨e0, e1⟩ := cells_two (w.alloc (.cells #[.int .u32 (p.a : Int), .int .i64 p.n] 35)) (.int .u32 (q.a : Int)) (.int .i64 q.n) 35
  rw [show (w.alloc (.cells #[.int .u32 (p.a : Int), .int .i64 p.n] 35)).heap.size = w.heap.size + 1 by simp] at e0 e1
  have HPQ := Go.Lib.hid (fun (r : Pf) (hr : r ∈ stepsL D p) => show G r ∧ cov p r = true ∧ r.n - p.n ≤ (D : Int) from by
    obtain ⟨h1, h2, h3⟩ := (steps_in D p gp r).1 hr
    have := h1.len
    refine ⟨h1, h2, ?_⟩
    unfold ex at h3
    omega)
  generalize stepsL D p = S at CS HSL HSI HRI HAN HLN HPQ
  obtain ⟨hp0, hp1⟩ := hpl
  obtain ⟨pn, hpn⟩ : ∃ pn, pn = p.n := ⟨_, rfl⟩
  have HDV := Go.Lib.hid hDV
  have HAB := Go.Lib.hid hab
  obtain ⟨pa, pn'⟩ := p
  obtain ⟨qa, qn⟩ := q
  dsimp only at c0 c1 e0 e1 CS CG HB hp0 hp1 HAN HKV HPQ hpn HAB ⊢
  subst hpn
  have t0 : 4 < d := by omega
  have t1 : ¬ d ≤ 8 := by omega
  have t2 : decide (d ≤ 8) = false := decide_eq_false t1
  have t3 : ¬ d < 0 := by omega
  have t4 : decide (d < 0) = false := decide_eq_false t3
  have T0 := Go.Lib.hid True.intro
  clear hp9 hK hab hdeep hDV hq gp
  go_enter Try.func4, Try.ntmps4
  go_wp2_with (first
    | (go_at_call 16; have tok := T0.out; refine (CS.out _).mono ?_; rintro e w1 ⟨A, c, rfl, ho, hb⟩; have SV := Go.Lib.hid (Pfxs.of_own ho (oks_G (fun r hr => (HPQ.out r hr).1))); replace c0 := keeps hb c0; replace c1 := keeps hb c1; replace e0 := keeps hb e0; replace e1 := keeps hb e1; replace HB := Go.Lib.hid (Pfx.Below.tr HB.out hb); clear ho hb tok T0; have T1 := Go.Lib.hid True.intro)
    | (go_at_call 17; have tok := T1.out; refine (CG.out _).mono ?_; rintro e w2 ⟨rfl, hb⟩; replace SV := Go.Lib.hid (SV.out.keep hb); replace c0 := keeps hb c0; replace c1 := keeps hb c1; replace e0 := keeps hb e0; replace e1 := keeps hb e1; replace HB := Go.Lib.hid (Pfx.Below.tr HB.out hb); clear hb tok T1))
  go_loopw [8, 9, 10] (fun v8 v9 v10 wx => ∃ i n s : Nat, i ≤ K + 1 ∧ n ≤ 511 ∧ s ≤ 512 ∧ v10 = .int .i64 i ∧ v8 = .int .i64 n ∧ v9 = .int .i64 s ∧ Hid (n = 2 ^ i - 1 ∧ s = 2 ^ i) ∧ wx = w2) (fun _ _ v10 _ => 20 - (intOf v10).toNat)
  case atStart => exact ⟨0, 0, 1, by omega, by omega, by omega, rfl, rfl, rfl, Go.Lib.hid ⟨rfl, rfl⟩, rfl⟩
  case round =>
    obtain ⟨i, n, s, hi, hn, hs, rfl, rfl, rfl, hns, rfl⟩ := hrel
    by_cases hik : i ≤ K
    · obtain ⟨x0, x1⟩ := HKV.out.1 i hik
      have x2 : decide ((i : Int) ≤ 8) = true := decide_eq_true x0
      have x3 : decide (pn + (i : Int) ≤ 32) = true := decide_eq_true x1
      have hps : 2 ^ (i + 1) ≤ 2 ^ 9 := pow_mono (by omega)
      rw [show (2 : Nat) ^ 9 = 512 by decide, Nat.pow_succ, ← hns.out.2] at hps
      have hnb : n + s ≤ 511 := by have h1 := hns.out.1; have h2 := hns.out.2; have := pow_pos i; omega
      go_wp2
      go_roundw
      case rel => exact ⟨i + 1, n + s, 2 * s, by omega, by omega, by omega, by go_num, by go_num, by go_num, Go.Lib.hid ⟨by rw [Nat.pow_succ]; have h1 := hns.out.1; have h2 := hns.out.2; have := pow_pos i; omega, by rw [Nat.pow_succ]; have h2 := hns.out.2; omega⟩, trivial⟩
      case measure => simp [intOf]; omega
    · obtain rfl : i = K + 1 := by omega
      have HN := Go.Lib.hid (show n = S.length by rw [HLN.out]; exact hns.out.1)
      obtain ⟨x0, x1'⟩ := HKV.out.2
      have x1 : ¬ (pn + ((K + 1 : Nat) : Int) ≤ 32) := by omega
      have x2 : decide (((K + 1 : Nat) : Int) ≤ 8) = true := decide_eq_true x0
      have x3 : decide (pn + ((K + 1 : Nat) : Int) ≤ 32) = false := decide_eq_false x1
      obtain ⟨k1, hk1⟩ : ∃ k1 : Nat, k1 = K + 1 := ⟨_, rfl⟩
      have HNS := HN
      obtain ⟨wo, hwo⟩ : ∃ x, x = wr := ⟨_, rfl⟩
      subst hwo
      have hlw := block_lt_of_cell c0
      have hlq := block_lt_of_cell e0
      clear HN
      go_wp2
      go_loopw [11, 12] (fun v11 v12 wx => ∃ (i : Nat) (b : Bool), i ≤ S.length ∧ v12 = .int .i64 i ∧ v11 = .bool b ∧ Hid (b = (S.take i).any (fun r => sameB r ⟨qa, qn⟩)) ∧ Hid (Below wo.heap.size wo wx)) (fun _ v12 _ => S.length - (intOf v12).toNat)
      case atStart => exact ⟨0, false, Nat.zero_le _, rfl, rfl, Go.Lib.hid rfl, Go.Lib.hid (Below.refl _ _)⟩
      case round =>
        obtain ⟨i, b, hi2, rfl, rfl, hbq, hb⟩ := hrel
        by_cases hlt : i < S.length
        · obtain ⟨r, hr⟩ : ∃ r, S[i]? = some r := ⟨_, List.getElem?_eq_getElem hlt⟩
          obtain ⟨gr, hcv, hrd⟩ := HPQ.out r (List.mem_of_getElem? hr)
          have hrow := SV.out.keep hb.out
          obtain ⟨br, ro, rfl, hbr, k0, k1'⟩ := hrow.at_ hr
          have z0 : (0 : Int) ≤ (i : Int) := by omega
          have z1 : (i : Int) < (S.length : Int) := by omega
          have z1' : i + 1 ≤ S.length := hlt
          have r0 := cell_regrown k0
          have r1 := cell_regrown k1'
          have r2 := cell_regrown ((hb.out.cell (p := ⟨w.heap.size + 1, 0, none⟩) hlq).trans e0)
          have r3 := cell_regrown ((hb.out.cell (p := ⟨w.heap.size + 1, 1, none⟩) hlq).trans e1)
          have r4 := cell_regrown ((hb.out.cell (p := ⟨w.heap.size, 0, none⟩) hlw).trans c0)
          have r5 := cell_regrown ((hb.out.cell (p := ⟨w.heap.size, 1, none⟩) hlw).trans c1)
          have CV := inRegion (fun W => refCovers_any pa pn r.a r.n HGP.out.2 gr.2 W) wr
          rw [show coversB pa pn r.a r.n = true from hcv] at CV
          have HAT := Go.Lib.hid (any_take (q := ⟨qa, qn⟩) hr)
          have hrl := gr.len
          obtain ⟨hrl0, hrl1⟩ := hrl
          have yD : ¬ (8 < r.n - pn) := by have := HDV.out; omega
          have yE : decide (8 < r.n - pn) = false := decide_eq_false yD
          have hS512 := HSL.out
          rcases Nat.eq_zero_or_pos i with h0 | h0
          · obtain ⟨ra, rn⟩ := r
            dsimp only at r0 r1 hrl0 hrl1 yD yE CV
            have y0 : ¬ 0 < i := by omega
            have y1 : decide (0 < i) = false := decide_eq_false y0
            clear hr gr hcv hrd hrow hbr k0 k1' h0 hlt
            go_wp2
            refine wp_region_quiet_below (by kernel_rfl) (by kernel_rfl) ?_
            repeat (first | go_big_quiet_step (exact CV _ _) | quiet_step (exact CV _ _))
            refine wpQuiet_nil ?_
            intro _ hw'
            obtain ⟨⟨dq, osq⟩, hw2⟩ := hw'
            subst hw2
            have B3 := Go.Lib.hid (hb.out.trans ((below_regrown wr dq osq).mono hb.out.size))
            have x0 := r0 dq osq
            have x1 := r1 dq osq
            have x2 := r2 dq osq
            have x3 := r3 dq osq
            clear r0 r1 r2 r3 r4 r5 CV yD yE y0 y1
            generalize Go.Sort.grow (redrawn wr dq) osq = W3 at B3 x0 x1 x2 x3 ⊢
            obtain ⟨bA, hbA⟩ : ∃ x, x = decide (ra = qa) := ⟨_, rfl⟩
            obtain ⟨bN, hbN⟩ : ∃ x, x = decide (rn = qn) := ⟨_, rfl⟩
            have yA : ((ra : Int) == (qa : Int)) = bA := by rw [hbA]; exact eqN _ _
            have yN : (rn == qn) = bN := by rw [hbN]; exact eqI _ _
            have HSB := Go.Lib.hid (show sameB ⟨ra, rn⟩ ⟨qa, qn⟩ = (bA && bN) by rw [hbA, hbN]; rfl)
            clear hbA hbN
            cases b with
            | true =>
              go_wp2
              refine wp_region_quiet_below (by kernel_rfl) (by kernel_rfl) ?_
              repeat (first | go_big_quiet_step (fail) | quiet_step (fail))
              refine wpQuiet_nil ?_
              intro _ hw'
              obtain ⟨⟨dq, osq⟩, hw2⟩ := hw'
              subst hw2
              go_wp2
              go_roundw
              case rel => exact ⟨i + 1, true, z1', by go_num, rfl, Go.Lib.hid (by rw [HAT.out, ← hbq.out]; rfl), Go.Lib.hid (B3.out.trans ((below_regrown W3 dq osq).mono B3.out.size))⟩
              case measure => simp [intOf]; omega
            | false =>
              rcases bA with _ | _ <;> rcases bN with _ | _
              all_goals
                have v0 := cell_regrown x0
                have v1 := cell_regrown x1
                have v2 := cell_regrown x2
                have v3 := cell_regrown x3
                go_wp2
                refine wp_region_quiet_below (by kernel_rfl) (by kernel_rfl) ?_
                repeat (first | go_big_quiet_step (fail) | quiet_step (fail))
                refine wpQuiet_nil ?_
                intro _ hw'
                obtain ⟨⟨dq, osq⟩, hw2⟩ := hw'
                subst hw2
                go_wp2
                go_roundw
                case rel => exact ⟨i + 1, _, z1', by go_num, rfl, Go.Lib.hid (by rw [HAT.out, ← hbq.out, HSB.out]; rfl), Go.Lib.hid (B3.out.trans ((below_regrown W3 dq osq).mono B3.out.size))⟩
                case measure => simp [intOf]; omega
          · obtain ⟨k, hik⟩ : ∃ k, i = k + 1 := ⟨i - 1, by omega⟩
            obtain ⟨t, ht⟩ : ∃ t, S[k]? = some t := ⟨_, List.getElem?_eq_getElem (by omega)⟩
            obtain ⟨br2, ro2, e2, hbr2, u0, u1⟩ := hrow.at_ ht
            injection e2 with e2
            injection e2 with e2 e3
            subst e2 e3
            have r6 := cell_regrown u0
            have r7 := cell_regrown u1
            have CC := inRegion (fun W => refCmp_any t.a t.n r.a r.n W) wr
            rw [ahead_cmp (rising_at HRI.out ht (by rw [← hik]; exact hr))] at CC
            obtain ⟨ra, rn⟩ := r
            obtain ⟨ta, tn⟩ := t
            dsimp only at r0 r1 r6 r7 hrl0 hrl1 yD yE CV CC
            have y0 : 0 < i := by omega
            have y1 : decide (0 < i) = true := decide_eq_true y0
            have y2 : IntKind.i64.wrap ((i : Int) - 1) = (k : Int) := by rw [IntKind.wrap_i64]; omega
            have y3 : (0 : Int) ≤ (k : Int) := by omega
            have y4 : (k : Int) < (S.length : Int) := by omega
            clear hr gr hcv hrd hrow hbr k0 k1' h0 hlt ht hbr2 u0 u1 hik
            go_wp2
            refine wp_region_quiet_below (by kernel_rfl) (by kernel_rfl) ?_
            repeat (first | go_big_quiet_step (exact CV _ _) | quiet_step (exact CV _ _) | go_big_quiet_step (exact CC _ _) | quiet_step (exact CC _ _))
            refine wpQuiet_nil ?_
            intro _ hw'
            obtain ⟨⟨dq, osq⟩, hw2⟩ := hw'
            subst hw2
            have B3 := Go.Lib.hid (hb.out.trans ((below_regrown wr dq osq).mono hb.out.size))
            have x0 := r0 dq osq
            have x1 := r1 dq osq
            have x2 := r2 dq osq
            have x3 := r3 dq osq
            clear r0 r1 r2 r3 r4 r5 r6 r7 CV CC yD yE y0 y1 y2 y3 y4
            generalize Go.Sort.grow (redrawn wr dq) osq = W3 at B3 x0 x1 x2 x3 ⊢
            obtain ⟨bA, hbA⟩ : ∃ x, x = decide (ra = qa) := ⟨_, rfl⟩
            obtain ⟨bN, hbN⟩ : ∃ x, x = decide (rn = qn) := ⟨_, rfl⟩
            have yA : ((ra : Int) == (qa : Int)) = bA := by rw [hbA]; exact eqN _ _
            have yN : (rn == qn) = bN := by rw [hbN]; exact eqI _ _
            have HSB := Go.Lib.hid (show sameB ⟨ra, rn⟩ ⟨qa, qn⟩ = (bA && bN) by rw [hbA, hbN]; rfl)
            clear hbA hbN
            cases b with
            | true =>
              go_wp2
              refine wp_region_quiet_below (by kernel_rfl) (by kernel_rfl) ?_
              repeat (first | go_big_quiet_step (fail) | quiet_step (fail))
              refine wpQuiet_nil ?_
              intro _ hw'
              obtain ⟨⟨dq, osq⟩, hw2⟩ := hw'
              subst hw2
              go_wp2
              go_roundw
              case rel => exact ⟨i + 1, true, z1', by go_num, rfl, Go.Lib.hid (by rw [HAT.out, ← hbq.out]; rfl), Go.Lib.hid (B3.out.trans ((below_regrown W3 dq osq).mono B3.out.size))⟩
              case measure => simp [intOf]; omega
            | false =>
              rcases bA with _ | _ <;> rcases bN with _ | _
              all_goals
                have v0 := cell_regrown x0
                have v1 := cell_regrown x1
                have v2 := cell_regrown x2
                have v3 := cell_regrown x3
                go_wp2
                refine wp_region_quiet_below (by kernel_rfl) (by kernel_rfl) ?_
                repeat (first | go_big_quiet_step (fail) | quiet_step (fail))
                refine wpQuiet_nil ?_
                intro _ hw'
                obtain ⟨⟨dq, osq⟩, hw2⟩ := hw'
                subst hw2
                go_wp2
                go_roundw
                case rel => exact ⟨i + 1, _, z1', by go_num, rfl, Go.Lib.hid (by rw [HAT.out, ← hbq.out, HSB.out]; rfl), Go.Lib.hid (B3.out.trans ((below_regrown W3 dq osq).mono B3.out.size))⟩
                case measure => simp [intOf]; omega
        · have x1 : decide ((i : Int) < (S.length : Int)) = false := decide_eq_false (by omega)
          have hbv : b = (cov ⟨pa, pn⟩ ⟨qa, qn⟩ && decide (qn - pn ≤ (D : Int))) := by rw [hbq.out, List.take_of_length_le (by omega)]; exact HAN.out
          have CQ := Go.Lib.hid (fun W => refCovers_any pa pn qa qn HGP.out.2 HQK.out.1 W)
          rw [show coversB pa pn qa qn = cov ⟨pa, pn⟩ ⟨qa, qn⟩ from rfl] at CQ
          replace c0 := (hb.out.cell (p := ⟨w.heap.size, 0, none⟩) hlw).trans c0
          replace c1 := (hb.out.cell (p := ⟨w.heap.size, 1, none⟩) hlw).trans c1
          replace e0 := (hb.out.cell (p := ⟨w.heap.size + 1, 0, none⟩) hlq).trans e0
          replace e1 := (hb.out.cell (p := ⟨w.heap.size + 1, 1, none⟩) hlq).trans e1
          have HBX := Go.Lib.hid (HB.out.trans (hb.out.mono HB.out.size))
          have HSN := HNS.out
          rw [HSN]
          cases hcq : cov ⟨pa, pn⟩ ⟨qa, qn⟩ with
          | false =>
            rw [hcq] at CQ hbv
            rw [Bool.false_and] at hbv
            subst hbv
            clear hbq hcq HSN
            go_wp2_with (first
              | (go_at_call 13; refine (CQ.out _).mono ?_; rintro e w5 ⟨rfl, h5⟩; replace HBX := Go.Lib.hid (Pfx.Below.tr HBX.out h5); clear h5)
              | (go_at_call 15; refine (lives_any _).mono ?_; rintro e w6 ⟨rfl, h6⟩; replace HBX := Go.Lib.hid (HBX.out.trans (h6.mono HBX.out.size)); clear h6))
            go_ret
            exact ⟨rfl, HBX.out⟩
          | true =>
            have gq := cov_ok hcq HQK.out
            obtain ⟨q0, q1⟩ := gq.len
            dsimp only at q0 q1
            rw [hcq] at CQ hbv
            rw [Bool.true_and] at hbv
            by_cases hqd : qn - pn ≤ (D : Int)
            focus
              rw [decide_eq_true hqd] at hbv
              have yq : qn - pn ≤ 8 := (by have := HDV.out; omega)
              have yr : decide (qn - pn ≤ 8) = true := decide_eq_true yq
            rotate_left
            focus
              exact absurd (show qn - pn ≤ (D : Int) by have := HAB.out; omega) hqd
            all_goals
              subst hbv
              clear hbq hcq HSN gq hqd
              go_wp2_with (first
                | (go_at_call 13; refine (CQ.out _).mono ?_; rintro e w5 ⟨rfl, h5⟩; replace c0 := keeps h5 c0; replace c1 := keeps h5 c1; replace e0 := keeps h5 e0; replace e1 := keeps h5 e1; replace HBX := Go.Lib.hid (Pfx.Below.tr HBX.out h5); clear h5)
                | (go_at_call 15; refine (lives_any _).mono ?_; rintro e w6 ⟨rfl, h6⟩; replace HBX := Go.Lib.hid (HBX.out.trans (h6.mono HBX.out.size)); clear h6))
              go_ret
              exact ⟨rfl, HBX.out⟩
end Go.Proofs.Ytgjdpmpbldofpaa.Wlk
