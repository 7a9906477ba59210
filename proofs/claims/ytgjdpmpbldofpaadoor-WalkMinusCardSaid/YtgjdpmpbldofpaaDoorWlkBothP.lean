/- walk.Both. -/
import Derived.Test.YtgjdpmpbldofpaaDoorWlkMerge
import Derived.Test.YtgjdpmpbldofpaaDoorWlkBoth
import Derived.Test.YtgjdpmpbldofpaaDoorWlkMerged
import Derived.Test.YtgjdpmpbldofpaaDoorPkCmp
import Derived.Test.YtgjdpmpbldofpaaDoorWlkGrow
import Derived.Deep.Cut
namespace Go.Proofs.YtgjdpmpbldofpaaDoor.Wlk
open Go.RowKit Mem Pfx PR Oct

theorem cutP_at {w : World} {b off n c : Nat} {p : Pf} {l : List Pf} (h : Pfxs w (.slice (some ⟨b, off, none⟩) n c) (p :: l)) (hn : n = l.length + 1) :
    Pfxs w (.slice (if c = 1 then some ⟨b, off, none⟩ else some ⟨b, off + 2, none⟩) (n - 1) (c - 1)) l := by
  subst hn
  have h1 := h.1.cut (k := 1) (by simp)
  rw [show 1 * 2 = 2 from rfl] at h1
  have e : (if c = 1 then (some ⟨b, off, none⟩ : Option Addr) else (some (⟨b, off, none⟩ : Addr)).map (·.add 2)) = if c = 1 then some ⟨b, off, none⟩ else some ⟨b, off + 2, none⟩ := by
    split
    · rfl
    · simp only [Option.map]
      rfl
  rw [e] at h1
  exact ⟨h1, fun q hq => h.2 q (List.mem_cons_of_mem _ hq)⟩
def lenV : Value → Nat
  | .slice _ n _ => n
  | _ => 0
set_option maxRecDepth 100000 in
set_option maxHeartbeats 16000000 in
theorem both_any (va vb : Value) (la lb : List Pf) (w : World) (hva : Pfxs w va la) (hvb : Pfxs w vb lb) (h1 : la.length ≤ 10000) (h2 : lb.length ≤ 10000) : Calls Tryd.prog 12 #[va, vb] w (GivesP (bothL (mergedL la) (mergedL lb)) w) := by
  obtain ⟨i0, E0⟩ := elemP
  have CA := Go.Lib.hid (show Calls Tryd.prog 22 #[va] w (GivesP (mergedL la) w) from merge_any va la w hva (by omega))
  have CB := Go.Lib.hid (fun (W : World) (h : Below w.heap.size w W) => show Calls Tryd.prog 22 #[vb] W (GivesP (mergedL lb) W) from merge_any vb lb W (hvb.keep h) (by omega))
  obtain ⟨a1, a2, a3⟩ := merged_is hva.2
  obtain ⟨b1, b2, b3⟩ := merged_is hvb.2
  have HGA := Go.Lib.hid a1.good
  have HGB := Go.Lib.hid b1.good
  have hla : (mergedL la).length ≤ 10000 := by omega
  have hlb : (mergedL lb).length ≤ 10000 := by omega
  generalize mergedL la = MA at CA HGA hla ⊢
  generalize mergedL lb = MB at CB HGB hlb ⊢
  have T0 := Go.Lib.hid True.intro
  clear hva hvb h1 h2 a1 a2 a3 b1 b2 b3
  go_enter Tryd.func12, Tryd.ntmps12
  go_wp2_with (first
    | (go_at_call 22; have tok := T0.out; refine (CA.out).mono ?_; rintro e w1 ⟨A1, c1, rfl, ho, hb⟩; have B1 := Go.Lib.hid hb; have SA := Go.Lib.hid (Pfxs.of_own ho (oks_G HGA.out)); clear ho hb tok T0)
    | (go_at_call 22; have tok := B1.out; refine (CB.out _ B1.out).mono ?_; rintro e w2 ⟨A2, c2, rfl, ho, hb⟩; have B2 := Go.Lib.hid (B1.out.trans (hb.mono B1.out.size)); replace SA := Go.Lib.hid (SA.out.keep hb); have SB := Go.Lib.hid (Pfxs.of_own ho (oks_G HGB.out)); clear ho hb tok))
  go_loopw [0, 1, 5] (fun v0 v1 v5 wx => ∃ (xa xb out : List Pf) (na nb m d0 d1 d5 : Nat) (D0 D1 D5 : Option Addr), v0 = .slice D0 na d0 ∧ v1 = .slice D1 nb d1 ∧ v5 = .slice D5 m d5 ∧ Hid (na = xa.length) ∧ Hid (nb = xb.length) ∧ Hid (m = out.length) ∧ m + na + nb ≤ 20000 ∧ Hid (Pfxs w2 (.slice D0 na d0) xa) ∧ Hid (Pfxs w2 (.slice D1 nb d1) xb) ∧ Hid (∀ p ∈ xa, G p) ∧ Hid (∀ q ∈ xb, G q) ∧ Hid (out ++ bothL xa xb = bothL MA MB) ∧ Hid (wx.ownsRow w2.heap.size 24 2 (.slice D5 m d5) m (pcells out)) ∧ Hid (Below w2.heap.size w2 wx)) (fun v0 v1 _ _ => lenV v0 + lenV v1)
  case atStart => exact ⟨MA, MB, [], _, _, 0, _, _, 0, _, _, none, rfl, rfl, rfl, Go.Lib.hid rfl, Go.Lib.hid rfl, Go.Lib.hid rfl, by omega, SA, SB, HGA, HGB, Go.Lib.hid rfl, Go.Lib.hid (own_nil2 _ _), Go.Lib.hid (Below.refl _ _)⟩
  case round =>
    obtain ⟨xa, xb, out, na, nb, m, d0, d1, d5, D0, D1, D5, rfl, rfl, rfl, hna, hnb, hm, hsum, PA, PB, GA, GB, hO, hown, hb⟩ := hrel
    cases xa with
    | nil =>
      have HE := Go.Lib.hid (show bothL MA MB = out by rw [← hO.out, both_nil_l, List.append_nil])
      obtain rfl : na = 0 := hna.out
      go_wp2
      go_ret
      exact ⟨D5, d5, by rw [HE.out, ← hm.out]; rfl, by rw [HE.out, ← hm.out]; exact own_base hown.out B2.out.size, B2.out.trans (hb.out.mono B2.out.size)⟩
    | cons p xa =>
      cases xb with
      | nil =>
        have HE := Go.Lib.hid (show bothL MA MB = out by rw [← hO.out, both_nil_r, List.append_nil])
        obtain rfl : nb = 0 := hnb.out
        have y0 : 0 < na := by have := hna.out; simp at this; omega
        have y1 : decide (0 < na) = true := decide_eq_true y0
        go_wp2
        go_ret
        exact ⟨D5, d5, by rw [HE.out, ← hm.out]; rfl, by rw [HE.out, ← hm.out]; exact own_base hown.out B2.out.size, B2.out.trans (hb.out.mono B2.out.size)⟩
      | cons q xb =>
        have y0 : 0 < na := by have := hna.out; simp at this; omega
        have y1 : decide (0 < na) = true := decide_eq_true y0
        have y2 : 0 < nb := by have := hnb.out; simp at this; omega
        have y3 : decide (0 < nb) = true := decide_eq_true y2
        have gp := GA.out p (List.mem_cons_self ..)
        have gq := GB.out q (List.mem_cons_self ..)
        obtain ⟨bp, op, rfl, hbp, k0, k1⟩ := (PA.out).at_ (i := 0) (p := p) rfl
        obtain ⟨bq, oq, rfl, hbq, k2, k3⟩ := (PB.out).at_ (i := 0) (p := q) rfl
        rw [show op + 0 * 2 = op by omega] at k0 k1
        rw [show oq + 0 * 2 = oq by omega] at k2 k3
        have HKC := Go.Lib.hid (fun (W : World) (h : Below w2.heap.size w2 W) => (⟨(h.cell (p := ⟨bp, op, none⟩) hbp).trans k0, (h.cell (p := ⟨bp, op + 1, none⟩) hbp).trans k1, (h.cell (p := ⟨bq, oq, none⟩) hbq).trans k2, (h.cell (p := ⟨bq, oq + 1, none⟩) hbq).trans k3⟩ : W.cell? ⟨bp, op, none⟩ = some (.int .u32 p.a) ∧ W.cell? ⟨bp, op + 1, none⟩ = some (.int .i64 p.n) ∧ W.cell? ⟨bq, oq, none⟩ = some (.int .u32 q.a) ∧ W.cell? ⟨bq, oq + 1, none⟩ = some (.int .i64 q.n)))
        have CUTA := Go.Lib.hid (cutP_at PA.out (by have := hna.out; simpa using this))
        have CUTB := Go.Lib.hid (cutP_at PB.out (by have := hnb.out; simpa using this))
        have HBG := Go.Lib.hid (both_go p q xa xb)
        have C1 := Go.Lib.hid (fun W => show Calls Tryd.prog 23 #[.agg #[.int .u32 p.a, .int .i64 p.n], .agg #[.int .u32 q.a, .int .i64 q.n]] W (fun e w' => e = .returned (.bool (cov p q)) ∧ Below W.heap.size W w') from covers_any p.a p.n q.a q.n gp.2 gq.2 W)
        have C2 := Go.Lib.hid (fun W => show Calls Tryd.prog 23 #[.agg #[.int .u32 q.a, .int .i64 q.n], .agg #[.int .u32 p.a, .int .i64 p.n]] W (fun e w' => e = .returned (.bool (cov q p)) ∧ Below W.heap.size W w') from covers_any q.a q.n p.a p.n gq.2 gp.2 W)
        have CAPA := Go.Lib.hid (show na ≤ d0 by obtain ⟨_, _, e, h, _⟩ := PA.out.form; injection e with e1 e2 e3; omega)
        have CAPB := Go.Lib.hid (show nb ≤ d1 by obtain ⟨_, _, e, h, _⟩ := PB.out.form; injection e with e1 e2 e3; omega)
        have CC := Go.Lib.hid (fun W => show Calls Tryd.prog 24 #[.agg #[.int .u32 p.a, .int .i64 p.n], .agg #[.int .u32 q.a, .int .i64 q.n]] W (fun e w' => e = .returned (.int .i64 (cmpP p.a p.n q.a q.n)) ∧ Below W.heap.size W w') from (cmp_laid p.a p.n q.a q.n gp.2 gq.2 gp.1 gq.1 W).mono (fun e w' h => ⟨h.1, h.2.below⟩))
        have hna1 := hna.out
        have hnb1 := hnb.out
        simp only [List.length_cons] at hna1 hnb1
        obtain ⟨hs0, hs1, hs2, hs3⟩ := HKC.out _ (hb.out.trans ((Below.refl wr.heap.size wr).drew.mono hb.out.size))
        obtain ⟨pa, pn⟩ := p
        obtain ⟨qa, qn⟩ := q
        dsimp only at HKC C1 C2 CC hs0 hs1 hs2 hs3
        have HN := Go.Lib.hid (And.intro hna1 hnb1)
        clear k0 k1 k2 k3 hna1 hnb1 hbp hbq
        have HB0 := Go.Lib.hid ((Below.refl wr.heap.size wr).drew)
        have HKR := Go.Lib.hid (fun (W : World) (h : Below wr.heap.size wr W) => HKC.out W (hb.out.trans (h.mono hb.out.size)))
        go_wp2_with fail
        go_region_held3 (fun W => W.cell? ⟨bp, op, none⟩ = some (.int .u32 pa) ∧ W.cell? ⟨bp, op + 1, none⟩ = some (.int .i64 pn) ∧ W.cell? ⟨bq, oq, none⟩ = some (.int .u32 qa) ∧ W.cell? ⟨bq, oq + 1, none⟩ = some (.int .i64 qn))
          (first | exact ⟨by assumption, by assumption, by assumption, by assumption⟩ | exact HKR.out _ HB0.out | exact HKR.out _ (HB0.out.alloc (Nat.le_refl _) _) | exact HKR.out _ ((HB0.out.alloc (Nat.le_refl _) _).alloc (by simp) _) | exact HKR.out _ ((((HB0.out.alloc (Nat.le_refl _) _).alloc (by simp) _).setCell (by simp) _).setCell (by simp) _))
          (fail)
        focus
          obtain ⟨x0, x1⟩ := cells_two wr (.int .u32 (pa : Int)) (.int .i64 pn) 24
          replace x0 := keeps (below_new _ (.cells #[.int .u32 (qa : Int), .int .i64 qn] 24)) x0
          replace x1 := keeps (below_new _ (.cells #[.int .u32 (qa : Int), .int .i64 qn] 24)) x1
          obtain ⟨x2, x3⟩ := cells_two (wr.alloc (.cells #[.int .u32 (pa : Int), .int .i64 pn] 24)) (.int .u32 (qa : Int)) (.int .i64 qn) 24
          rw [show (wr.alloc (.cells #[.int .u32 (pa : Int), .int .i64 pn] 24)).heap.size = wr.heap.size + 1 by simp] at x2 x3
          replace x0 := keeps ((Below.refl _ _).drew) x0
          replace x1 := keeps ((Below.refl _ _).drew) x1
          replace x2 := keeps ((Below.refl _ _).drew) x2
          replace x3 := keeps ((Below.refl _ _).drew) x3
          have BX := Go.Lib.hid ((below_new2 wr (.cells #[.int .u32 (pa : Int), .int .i64 pn] 24) (.cells #[.int .u32 (qa : Int), .int .i64 qn] 24)).drew)
          obtain ⟨by_, hn2⟩ : ∃ b, b = wr.heap.size + 1 := ⟨_, rfl⟩
          rw [← hn2] at x2 x3 ⊢
          obtain ⟨bx, hn1⟩ : ∃ b, b = wr.heap.size := ⟨_, rfl⟩
          have Lbx := Go.Lib.hid (show wr.heap.size ≤ bx by omega)
          have Lby_ := Go.Lib.hid (show wr.heap.size ≤ by_ by omega)
          rw [← hn1] at x0 x1 ⊢
          clear hn1 hn2
          generalize ((wr.alloc (.cells #[.int .u32 (pa : Int), .int .i64 pn] 24)).alloc (.cells #[.int .u32 (qa : Int), .int .i64 qn] 24)).drew = W1 at x0 x1 x2 x3 BX ⊢
        rotate_left
        focus
          obtain ⟨x2, x3⟩ := cells_two wr (.int .u32 (qa : Int)) (.int .i64 qn) 24
          replace x2 := keeps (below_new _ (.cells #[.int .u32 (pa : Int), .int .i64 pn] 24)) x2
          replace x3 := keeps (below_new _ (.cells #[.int .u32 (pa : Int), .int .i64 pn] 24)) x3
          obtain ⟨x0, x1⟩ := cells_two (wr.alloc (.cells #[.int .u32 (qa : Int), .int .i64 qn] 24)) (.int .u32 (pa : Int)) (.int .i64 pn) 24
          rw [show (wr.alloc (.cells #[.int .u32 (qa : Int), .int .i64 qn] 24)).heap.size = wr.heap.size + 1 by simp] at x0 x1
          replace x2 := keeps ((Below.refl _ _).drew) x2
          replace x3 := keeps ((Below.refl _ _).drew) x3
          replace x0 := keeps ((Below.refl _ _).drew) x0
          replace x1 := keeps ((Below.refl _ _).drew) x1
          have BX := Go.Lib.hid ((below_new2 wr (.cells #[.int .u32 (qa : Int), .int .i64 qn] 24) (.cells #[.int .u32 (pa : Int), .int .i64 pn] 24)).drew)
          obtain ⟨bx, hn2⟩ : ∃ b, b = wr.heap.size + 1 := ⟨_, rfl⟩
          rw [← hn2] at x0 x1 ⊢
          obtain ⟨by_, hn1⟩ : ∃ b, b = wr.heap.size := ⟨_, rfl⟩
          have Lby_ := Go.Lib.hid (show wr.heap.size ≤ by_ by omega)
          have Lbx := Go.Lib.hid (show wr.heap.size ≤ bx by omega)
          rw [← hn1] at x2 x3 ⊢
          clear hn1 hn2
          generalize ((wr.alloc (.cells #[.int .u32 (qa : Int), .int .i64 qn] 24)).alloc (.cells #[.int .u32 (pa : Int), .int .i64 pn] 24)).drew = W1 at x0 x1 x2 x3 BX ⊢
        all_goals
          have ya : (1 : Int) ≤ (na : Int) := by omega
          have yb : (1 : Int) ≤ (nb : Int) := by omega
          have yc : (na : Int) ≤ (d0 : Int) := by have := CAPA.out; omega
          have yd : (nb : Int) ≤ (d1 : Int) := by have := CAPB.out; omega
          cases hc1 : cov ⟨pa, pn⟩ ⟨qa, qn⟩ with
          | true =>
            rw [hc1] at C1
            have HG := Go.Lib.hid (HBG.out.trans (if_pos hc1))
            clear HBG C2 hc1
            go_wp2_with (go_at_call 23; refine (C1.out _).mono ?_; rintro e w4 ⟨rfl, hb4⟩; replace x0 := keeps hb4 x0; replace x1 := keeps hb4 x1; replace x2 := keeps hb4 x2; replace x3 := keeps hb4 x3; replace BX := Go.Lib.hid (BX.out.trans (hb4.mono BX.out.size)); clear hb4)
            have hlt4 : by_ < w4.heap.size := block_lt_of_cell x2
            have HKX := Go.Lib.hid (fun (W : World) (h : Below w4.heap.size w4 W) => (⟨(h.cell (p := ⟨by_, 0, none⟩) hlt4).trans x2, (h.cell (p := ⟨by_, 1, none⟩) hlt4).trans x3⟩ : W.cell? ⟨by_, 0, none⟩ = some (.int .u32 qa) ∧ W.cell? ⟨by_, 1, none⟩ = some (.int .i64 qn)))
            obtain ⟨m0, m1⟩ := HKX.out _ ((Below.refl w4.heap.size w4).drew)
            have HW4 := Go.Lib.hid (hb.out.trans (BX.out.mono hb.out.size))
            have T9 := Go.Lib.hid True.intro
            go_region_held3 (fun W => W.cell? ⟨by_, 0, none⟩ = some (.int .u32 qa) ∧ W.cell? ⟨by_, 1, none⟩ = some (.int .i64 qn))
              (first | exact ⟨by assumption, by assumption⟩ | exact HKX.out _ ((Below.refl w4.heap.size w4).drew) | exact HKX.out _ (((Below.refl w4.heap.size w4).drew).alloc (Nat.le_refl _) _) | exact H5.out)
              (first
                | (have tok := T9.out
                   refine step_append_row (by rfl) (.tmp 32) (.tmp 34) (by rfl) E0 w2.heap.size _ m (pcells out) (by rfl) ?_ _ 1 [.int .u32 qa, .int .i64 qn] (by rfl) ?_ (ones2 _ _ _ _) ?_ ?_ ?_ (m + 1) rfl ?_
                   · exact own_keep hown.out ((BX.out.trans (((Below.refl w4.heap.size w4).drew).mono BX.out.size)).alloc BX.out.size _)
                   · exact row_new2 _ _ _ _
                   · unfold maxLen; omega
                   · omega
                   · exact Nat.le_trans HW4.out.size (by simp)
                   intro A5 c5 w5 hown5 hg5 hat5 hb5
                   have O5 := Go.Lib.hid hown5
                   have B5 := Go.Lib.hid ((HW4.out.drew.alloc HW4.out.size _).trans hb5)
                   have H5 := Go.Lib.hid (And.intro ((grown_cell hg5 (p := ⟨by_, 0, none⟩) (by simp; omega) (own_not hown.out Lby_.out)).trans (keeps (below_new _ _) m0)) ((grown_cell hg5 (p := ⟨by_, 1, none⟩) (by simp; omega) (own_not hown.out Lby_.out)).trans (keeps (below_new _ _) m1)))
                   clear hown5 hg5 hat5 hb5 tok T9))
            go_wp2
            go_roundw
            case rel => exact ⟨⟨pa, pn⟩ :: xa, xb, out ++ [⟨qa, qn⟩], na, nb - 1, m + 1, d0, _, c5, _, _, A5, rfl, rfl, rfl, hna, Go.Lib.hid (by have := HN.out.2; omega), Go.Lib.hid (by rw [List.length_append, hm.out]; rfl), by omega, PA, CUTB, GA, Go.Lib.hid (fun r hr => GB.out r (List.mem_cons_of_mem _ hr)), Go.Lib.hid (by rw [← hO.out, HG.out, List.append_assoc]; rfl), Go.Lib.hid (own_snoc O5.out), B5⟩
            case measure => simp only [lenV]; omega
          | false =>
            rw [hc1] at C1
            have HG1 := Go.Lib.hid (HBG.out.trans (if_neg (by rw [hc1]; decide)))
            cases hc2 : cov ⟨qa, qn⟩ ⟨pa, pn⟩ with
            | true =>
              rw [hc2] at C2
              have HG := Go.Lib.hid (HG1.out.trans (if_pos hc2))
              clear HBG HG1 hc1 hc2
              go_wp2_with (first
                | (go_at_call 23; (with_reducible refine (C1.out _).mono ?_); rintro e w5 ⟨rfl, hb4⟩; replace x0 := keeps hb4 x0; replace x1 := keeps hb4 x1; replace x2 := keeps hb4 x2; replace x3 := keeps hb4 x3; replace BX := Go.Lib.hid (BX.out.trans (hb4.mono BX.out.size)); clear hb4)
                | (go_at_call 23; (with_reducible refine (C2.out _).mono ?_); rintro e w4 ⟨rfl, hb4⟩; replace x0 := keeps hb4 x0; replace x1 := keeps hb4 x1; replace x2 := keeps hb4 x2; replace x3 := keeps hb4 x3; replace BX := Go.Lib.hid (BX.out.trans (hb4.mono BX.out.size)); clear hb4))
              have hlt4 : bx < w4.heap.size := block_lt_of_cell x0
              have HKX := Go.Lib.hid (fun (W : World) (h : Below w4.heap.size w4 W) => (⟨(h.cell (p := ⟨bx, 0, none⟩) hlt4).trans x0, (h.cell (p := ⟨bx, 1, none⟩) hlt4).trans x1⟩ : W.cell? ⟨bx, 0, none⟩ = some (.int .u32 pa) ∧ W.cell? ⟨bx, 1, none⟩ = some (.int .i64 pn)))
              obtain ⟨m0, m1⟩ := HKX.out _ ((Below.refl w4.heap.size w4).drew)
              have HW4 := Go.Lib.hid (hb.out.trans (BX.out.mono hb.out.size))
              have T9 := Go.Lib.hid True.intro
              go_region_held3 (fun W => W.cell? ⟨bx, 0, none⟩ = some (.int .u32 pa) ∧ W.cell? ⟨bx, 1, none⟩ = some (.int .i64 pn))
                (first | exact ⟨by assumption, by assumption⟩ | exact HKX.out _ ((Below.refl w4.heap.size w4).drew) | exact HKX.out _ (((Below.refl w4.heap.size w4).drew).alloc (Nat.le_refl _) _) | exact H5.out)
                (first
                  | (have tok := T9.out
                     refine step_append_row (by rfl) (.tmp 42) (.tmp 44) (by rfl) E0 w2.heap.size _ m (pcells out) (by rfl) ?_ _ 1 [.int .u32 pa, .int .i64 pn] (by rfl) ?_ (ones2 _ _ _ _) ?_ ?_ ?_ (m + 1) rfl ?_
                     · exact own_keep hown.out ((BX.out.trans (((Below.refl w4.heap.size w4).drew).mono BX.out.size)).alloc BX.out.size _)
                     · exact row_new2 _ _ _ _
                     · unfold maxLen; omega
                     · omega
                     · exact Nat.le_trans HW4.out.size (by simp)
                     intro A5 c5 w5 hown5 hg5 hat5 hb5
                     have O5 := Go.Lib.hid hown5
                     have B5 := Go.Lib.hid ((HW4.out.drew.alloc HW4.out.size _).trans hb5)
                     have H5 := Go.Lib.hid (And.intro ((grown_cell hg5 (p := ⟨bx, 0, none⟩) (by simp; omega) (own_not hown.out Lbx.out)).trans (keeps (below_new _ _) m0)) ((grown_cell hg5 (p := ⟨bx, 1, none⟩) (by simp; omega) (own_not hown.out Lbx.out)).trans (keeps (below_new _ _) m1)))
                     clear hown5 hg5 hat5 hb5 tok T9))
              go_wp2
              go_roundw
              case rel => exact ⟨xa, ⟨qa, qn⟩ :: xb, out ++ [⟨pa, pn⟩], na - 1, nb, m + 1, _, d1, c5, _, _, A5, rfl, rfl, rfl, Go.Lib.hid (by have := HN.out.1; omega), hnb, Go.Lib.hid (by rw [List.length_append, hm.out]; rfl), by omega, CUTA, PB, Go.Lib.hid (fun r hr => GA.out r (List.mem_cons_of_mem _ hr)), GB, Go.Lib.hid (by rw [← hO.out, HG.out, List.append_assoc]; rfl), Go.Lib.hid (own_snoc O5.out), B5⟩
              case measure => simp only [lenV]; omega
            | false =>
              rw [hc2] at C2
              have HG2 := Go.Lib.hid (HG1.out.trans (if_neg (by rw [hc2]; decide)))
              cases hah : PR.ahead ⟨pa, pn⟩ ⟨qa, qn⟩ with
              | true =>
                have HG := Go.Lib.hid (HG2.out.trans (if_pos hah))
                have yz : decide (cmpP pa pn qa qn < 0) = true := hah
                generalize cmpP pa pn qa qn = z at yz CC
                have yw : z < 0 := of_decide_eq_true yz
                clear HBG HG1 HG2 hc1 hc2 hah
                go_wp2_with (first
                  | (go_at_call 23; (with_reducible refine (C1.out _).mono ?_); rintro e w4 ⟨rfl, hb4⟩; replace x0 := keeps hb4 x0; replace x1 := keeps hb4 x1; replace x2 := keeps hb4 x2; replace x3 := keeps hb4 x3; replace BX := Go.Lib.hid (BX.out.trans (hb4.mono BX.out.size)); clear hb4)
                  | (go_at_call 23; (with_reducible refine (C2.out _).mono ?_); rintro e w5 ⟨rfl, hb4⟩; replace x0 := keeps hb4 x0; replace x1 := keeps hb4 x1; replace x2 := keeps hb4 x2; replace x3 := keeps hb4 x3; replace BX := Go.Lib.hid (BX.out.trans (hb4.mono BX.out.size)); clear hb4)
                  | (go_at_call 24; (with_reducible refine (CC.out _).mono ?_); rintro e w6 ⟨rfl, hb4⟩; replace x0 := keeps hb4 x0; replace x1 := keeps hb4 x1; replace x2 := keeps hb4 x2; replace x3 := keeps hb4 x3; replace BX := Go.Lib.hid (BX.out.trans (hb4.mono BX.out.size)); clear hb4))
                go_roundw
                case rel => exact ⟨xa, ⟨qa, qn⟩ :: xb, out, na - 1, nb, m, _, d1, d5, _, _, D5, rfl, rfl, rfl, Go.Lib.hid (by have := HN.out.1; omega), hnb, hm, by omega, CUTA, PB, Go.Lib.hid (fun r hr => GA.out r (List.mem_cons_of_mem _ hr)), GB, Go.Lib.hid (by rw [← hO.out, HG.out]), Go.Lib.hid (own_keep hown.out BX.out), Go.Lib.hid (hb.out.trans (BX.out.mono hb.out.size))⟩
                case measure => simp only [lenV]; omega
              | false =>
                have HG := Go.Lib.hid (HG2.out.trans (if_neg (by rw [hah]; decide)))
                have yz : decide (cmpP pa pn qa qn < 0) = false := hah
                generalize cmpP pa pn qa qn = z at yz CC
                have yw : ¬ z < 0 := of_decide_eq_false yz
                clear HBG HG1 HG2 hc1 hc2 hah
                go_wp2_with (first
                  | (go_at_call 23; (with_reducible refine (C1.out _).mono ?_); rintro e w4 ⟨rfl, hb4⟩; replace x0 := keeps hb4 x0; replace x1 := keeps hb4 x1; replace x2 := keeps hb4 x2; replace x3 := keeps hb4 x3; replace BX := Go.Lib.hid (BX.out.trans (hb4.mono BX.out.size)); clear hb4)
                  | (go_at_call 23; (with_reducible refine (C2.out _).mono ?_); rintro e w5 ⟨rfl, hb4⟩; replace x0 := keeps hb4 x0; replace x1 := keeps hb4 x1; replace x2 := keeps hb4 x2; replace x3 := keeps hb4 x3; replace BX := Go.Lib.hid (BX.out.trans (hb4.mono BX.out.size)); clear hb4)
                  | (go_at_call 24; (with_reducible refine (CC.out _).mono ?_); rintro e w6 ⟨rfl, hb4⟩; replace x0 := keeps hb4 x0; replace x1 := keeps hb4 x1; replace x2 := keeps hb4 x2; replace x3 := keeps hb4 x3; replace BX := Go.Lib.hid (BX.out.trans (hb4.mono BX.out.size)); clear hb4))
                go_roundw
                case rel => exact ⟨⟨pa, pn⟩ :: xa, xb, out, na, nb - 1, m, d0, _, d5, _, _, D5, rfl, rfl, rfl, hna, Go.Lib.hid (by have := HN.out.2; omega), hm, by omega, PA, CUTB, GA, Go.Lib.hid (fun r hr => GB.out r (List.mem_cons_of_mem _ hr)), Go.Lib.hid (by rw [← hO.out, HG.out]), Go.Lib.hid (own_keep hown.out BX.out), Go.Lib.hid (hb.out.trans (BX.out.mono hb.out.size))⟩
                case measure => simp only [lenV]; omega
end Go.Proofs.YtgjdpmpbldofpaaDoor.Wlk
