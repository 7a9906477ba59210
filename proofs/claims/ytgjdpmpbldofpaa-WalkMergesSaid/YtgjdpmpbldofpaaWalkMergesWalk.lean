/- The walk of the law WalkMerges. -/
import Derived.Test.YtgjdpmpbldofpaaWlkLives
import Derived.Test.YtgjdpmpbldofpaaWlkRPfx
import Derived.Test.YtgjdpmpbldofpaaPfxFew
import Derived.Test.YtgjdpmpbldofpaaPfxSame
import Derived.Test.YtgjdpmpbldofpaaNlriSort
namespace Go.Proofs.Ytgjdpmpbldofpaa.Wlk
open Go.RowKit Mem Pfx PR Oct

theorem hasG_sort {l : List Pf} (h : Oks l) (x : Nat) : has (sortP l) x ↔ hasG l x := by
  obtain ⟨-, s2, -⟩ := sort_is h
  unfold has hasG
  constructor
  · rintro ⟨p, hp, hx⟩
    exact ⟨p, ((s2 p).1 hp).1, ((s2 p).1 hp).2, hx⟩
  · rintro ⟨p, hp, hg, hx⟩
    exact ⟨p, (s2 p).2 ⟨hp, hg⟩, hx⟩
/-- The merged list of whatever prefixes. -/
def mergedL (l : List Pf) : List Pf := mergeL (topsL (sortP l))
theorem merged_is {l : List Pf} (h : Oks l) : Canon (mergedL l) ∧ (∀ x, has (mergedL l) x ↔ hasG l x) ∧ (mergedL l).length ≤ l.length := by
  obtain ⟨s1, s2, s3⟩ := sort_is h
  obtain ⟨t1, t2, t3, t4, t5⟩ := tops_is s1 s3
  obtain ⟨m1, m2, m3⟩ := merge_is t1
  refine ⟨m1, fun x => ?_, ?_⟩
  · unfold mergedL
    rw [m2, t2, hasG_sort h]
  · have := sort_le l
    unfold mergedL
    omega
theorem merged_pfx {l : List Pf} (h : Oks l) : pfxT (ofT l) = mergedL l := by
  obtain ⟨m1, m2, m3⟩ := merged_is h
  obtain ⟨o1, o2, o3⟩ := of_is h
  obtain ⟨p1, p2⟩ := pfxT_is _ o1
  exact canon_ext p1 m1 (fun x => by rw [p2, o2, m2])
theorem hasG_good {l : List Pf} (h : ∀ p ∈ l, G p) (x : Nat) : hasG l x ↔ has l x := by
  unfold has hasG
  constructor
  · rintro ⟨p, hp, -, hx⟩
    exact ⟨p, hp, hx⟩
  · rintro ⟨p, hp, hx⟩
    exact ⟨p, hp, (h p hp).1, hx⟩
theorem merged_self {m : List Pf} (h : Canon m) : mergedL m = m := by
  obtain ⟨m1, m2, m3⟩ := merged_is (oks_G h.good)
  exact canon_ext m1 h (fun x => by rw [m2, hasG_good h.good])
theorem span_of {l : List Pf} (h : Oks l) : spanL (topsL (sortP l)) = sizeT (ofT l) := by
  obtain ⟨s1, s2, s3⟩ := sort_is h
  obtain ⟨t1, t2, t3, t4, t5⟩ := tops_is s1 s3
  obtain ⟨o1, o2, o3⟩ := of_is h
  exact span_size t1 o1 (fun x => by rw [t2, hasG_sort h, o2])
/-- Whether no other one of the first k covers the one at i. -/
def bareTo (s : List Pf) (i k : Nat) : Bool := (List.range k).all (fun k => k == i || !((s[k]?.bind fun q => s[i]?.map fun p => cov q p).getD false))
theorem bareTo_step {s : List Pf} {i k : Nat} {p q : Pf} (hi : s[i]? = some p) (hk : s[k]? = some q) : bareTo s i (k + 1) = (bareTo s i k && (k == i || !cov q p)) := by
  unfold bareTo
  rw [List.range_succ, List.all_append]
  simp [hi, hk]
theorem barePick_yes {s : List Pf} {i : Nat} {p : Pf} (hi : s[i]? = some p) (h : bareTo s i s.length = true) : barePick s (i + 1) = barePick s i ++ [p] := by
  conv => lhs; unfold barePick
  rw [show bare s i = bareTo s i s.length from rfl, if_pos h, hi]
  rfl
theorem barePick_no {s : List Pf} {i : Nat} (h : bareTo s i s.length = false) : barePick s (i + 1) = barePick s i := by
  conv => lhs; unfold barePick
  rw [show bare s i = bareTo s i s.length from rfl, if_neg (by rw [h]; decide), List.append_nil]
theorem same_self (w : World) (v u : Value) (l : List Pf) (hv : Pfxs w v l) (hu : Pfxs w u l) : Calls Try.prog 8 #[v, u] w (Tells (.bool true) w) := by
  haveI : DecidableEq Pf := fun p q => decidable_of_iff _ (sameB_eq (p := p) (q := q))
  have h := refSameP_any v u l l w hv hu
  rw [decide_eq_true rfl] at h
  exact h
set_option maxRecDepth 100000 in
set_option maxHeartbeats 16000000 in
theorem merges_walk (v : Value) (l : List Pf) (w : World) (hv : Pfxs w v l) : Calls Try.prog 3 #[v] w (Tells (.bool true) w) := by
  obtain ⟨i0, E0⟩ := elemP
  have CF0 := Go.Lib.hid (show Calls Try.prog 5 #[v, .int .i64 30] w (GivesP (l.take 30) w) from few_any v l 30 w hv (by omega))
  have ho1 : Oks (l.take 30) := hv.2.take 30
  have hl1 : (l.take 30).length ≤ 30 := by rw [List.length_take]; omega
  generalize l.take 30 = l1 at CF0 ho1 hl1
  obtain ⟨m1, m2, m3⟩ := merged_is ho1
  obtain ⟨o1, o2, o3⟩ := of_is ho1
  obtain ⟨s1, s2, s3⟩ := sort_is ho1
  have hsl := sort_le l1
  obtain ⟨t1, t2, t3, t4, t5⟩ := tops_is s1 s3
  have CF := Go.Lib.hid (fun (W : World) (u : Value) (h : Pfxs W u l1) => show Calls Try.prog 5 #[u, .int .i64 30] W (GivesP l1 W) from by
    have := few_any u l1 30 W h (by omega)
    rw [List.take_of_length_le hl1] at this
    exact this)
  have CM := Go.Lib.hid (fun (W : World) (u : Value) (h : Pfxs W u l1) => show Calls Try.prog 6 #[u] W (GivesP (mergedL l1) W) from merge_any u l1 W h (by omega))
  have CO := Go.Lib.hid (fun (W : World) (u : Value) (h : Pfxs W u l1) => rof_any u l1 W h (by omega))
  have CX := Go.Lib.hid (fun (W : World) (u : Value) (h : Pts W u (ofT l1)) => show Calls Try.prog 9 #[u] W (GivesP (mergedL l1) W) from by
    have := rpfx_any u (ofT l1) W h o1 (by omega)
    rw [merged_pfx ho1] at this
    exact this)
  have CS := Go.Lib.hid (fun (W : World) (u : Value) (h : Pfxs W u l1) => show Calls Try.prog 10 #[u] W (Tells (.int .i64 (sizeT (ofT l1))) W) from by
    have := span_any u l1 W h (by omega)
    rw [span_of ho1] at this
    exact this)
  have CZ := Go.Lib.hid (fun (W : World) (u : Value) (h : Pts W u (ofT l1)) => rsize_any u (ofT l1) W h o1)
  have CN := Go.Lib.hid (fun (W : World) (u : Value) (h : Pfxs W u (mergedL l1)) => show Calls Try.prog 5 #[u, .int .i64 2000] W (GivesP (mergedL l1) W) from by
    have := few_any u (mergedL l1) 2000 W h (by omega)
    rw [List.take_of_length_le (by omega)] at this
    exact this)
  have CM2 := Go.Lib.hid (fun (W : World) (u : Value) (h : Pfxs W u (mergedL l1)) => show Calls Try.prog 6 #[u] W (GivesP (mergedL l1) W) from by
    have : Calls Try.prog 6 #[u] W (GivesP (mergedL (mergedL l1)) W) := merge_any u (mergedL l1) W h (by omega)
    rw [merged_self m1] at this
    exact this)
  have CR := Go.Lib.hid (fun (W : World) (u : Value) (h : Pfxs W u l1) => refSort_any u l1 W h (by omega))
  have CT := Go.Lib.hid (fun (W : World) (u : Value) (h : Pfxs W u l1) => tops_any u l1 W h (by omega))
  have HBT := Go.Lib.hid (bare_tops s1 s3)
  have HOK := Go.Lib.hid ho1
  have HOM := Go.Lib.hid (oks_G m1.good)
  have HOS := Go.Lib.hid (oks_G s3)
  have HGS := Go.Lib.hid s3
  have HOU := Go.Lib.hid (oks_G t1.good)
  have hS : (sortP l1).length ≤ 30 := by omega
  generalize topsL (sortP l1) = U at CT HBT HOU
  generalize sortP l1 = S at CR HBT HOS HGS hS
  generalize mergedL l1 = M at CM CX CN CM2 HOM
  generalize hsz : sizeT (ofT l1) = z at CS CZ
  generalize ofT l1 = T at CO CX CZ hsz
  have CE := Go.Lib.hid (fun (W : World) (v u : Value) (hv : Pfxs W v M) (hu : Pfxs W u M) => same_self W v u M hv hu)
  have CU := Go.Lib.hid (fun (W : World) (v u : Value) (hv : Pfxs W v U) (hu : Pfxs W u U) => same_self W v u U hv hu)
  have BW := Go.Lib.hid (Below.refl w.heap.size w)
  have T0 := Go.Lib.hid True.intro
  clear hv ho1 hl1 m1 m2 m3 o1 o2 o3 s1 s2 s3 hsl t1 t2 t3 t4 t5 hsz
  go_enter Try.func3, Try.ntmps3
  go_wp2_with (first
    | (go_at_call 5; have tok := T0.out; (with_reducible refine (CF0.out).mono ?_); rintro e w1 ⟨A1, c1, rfl, ho, hb⟩; have P1 := Go.Lib.hid (Pfxs.of_own ho HOK.out); replace BW := Go.Lib.hid (BW.out.trans (hb.mono BW.out.size)); clear hb tok T0 ho; have T1 := Go.Lib.hid True.intro)
    | (go_at_call 5; have tok := T1.out; (with_reducible refine (CF.out _ _ P1.out).mono ?_); rintro e w2 ⟨A2, c2, rfl, ho, hb⟩; have P2 := Go.Lib.hid (Pfxs.of_own ho HOK.out); replace P1 := Go.Lib.hid (P1.out.keep hb); replace BW := Go.Lib.hid (BW.out.trans (hb.mono BW.out.size)); clear hb tok T1 ho; have T2 := Go.Lib.hid True.intro)
    | (go_at_call 6; have tok := T2.out; (with_reducible refine (CM.out _ _ P2.out).mono ?_); rintro e w3 ⟨A3, c3, rfl, ho, hb⟩; have PM := Go.Lib.hid (Pfxs.of_own ho HOM.out); replace P1 := Go.Lib.hid (P1.out.keep hb); replace BW := Go.Lib.hid (BW.out.trans (hb.mono BW.out.size)); clear hb tok T2 ho; have T3 := Go.Lib.hid True.intro)
    | (go_at_call 7; have tok := T3.out; (with_reducible refine (CO.out _ _ P1.out).mono ?_); rintro e w4 ⟨A4, c4, rfl, ho, hb⟩; have PT := Go.Lib.hid (Pts.of_own ho); replace P1 := Go.Lib.hid (P1.out.keep hb); replace PM := Go.Lib.hid (PM.out.keep hb); replace BW := Go.Lib.hid (BW.out.trans (hb.mono BW.out.size)); clear hb tok T3 ho; have T4 := Go.Lib.hid True.intro)
    | (go_at_call 9; have tok := T4.out; (with_reducible refine (CX.out _ _ PT.out).mono ?_); rintro e w5 ⟨A5, c5, rfl, ho, hb⟩; have PX := Go.Lib.hid (Pfxs.of_own ho HOM.out); replace P1 := Go.Lib.hid (P1.out.keep hb); replace PM := Go.Lib.hid (PM.out.keep hb); replace PT := Go.Lib.hid (PT.out.keep hb); replace BW := Go.Lib.hid (BW.out.trans (hb.mono BW.out.size)); clear hb tok T4 ho; have T5 := Go.Lib.hid True.intro)
    | (go_at_call 8; have tok := T5.out; (with_reducible refine (CE.out _ _ _ PM.out PX.out).mono ?_); rintro e w6 ⟨rfl, hb⟩; replace P1 := Go.Lib.hid (P1.out.keep hb); replace PM := Go.Lib.hid (PM.out.keep hb); replace PT := Go.Lib.hid (PT.out.keep hb); replace BW := Go.Lib.hid (BW.out.trans (hb.mono BW.out.size)); clear hb tok T5; have T6 := Go.Lib.hid True.intro)
    | (go_at_call 5; have tok := T6.out; (with_reducible refine (CF.out _ _ P1.out).mono ?_); rintro e w7 ⟨A7, c7, rfl, ho, hb⟩; have PF := Go.Lib.hid (Pfxs.of_own ho HOK.out); replace P1 := Go.Lib.hid (P1.out.keep hb); replace PM := Go.Lib.hid (PM.out.keep hb); replace PT := Go.Lib.hid (PT.out.keep hb); replace BW := Go.Lib.hid (BW.out.trans (hb.mono BW.out.size)); clear hb tok T6 ho; have T7 := Go.Lib.hid True.intro)
    | (go_at_call 10; have tok := T7.out; (with_reducible refine (CS.out _ _ PF.out).mono ?_); rintro e w8 ⟨rfl, hb⟩; replace P1 := Go.Lib.hid (P1.out.keep hb); replace PM := Go.Lib.hid (PM.out.keep hb); replace PT := Go.Lib.hid (PT.out.keep hb); replace BW := Go.Lib.hid (BW.out.trans (hb.mono BW.out.size)); clear hb tok T7; have T8 := Go.Lib.hid True.intro)
    | (go_at_call 11; have tok := T8.out; (with_reducible refine (CZ.out _ _ PT.out).mono ?_); rintro e w9 ⟨rfl, hb⟩; replace P1 := Go.Lib.hid (P1.out.keep hb); replace PM := Go.Lib.hid (PM.out.keep hb); replace BW := Go.Lib.hid (BW.out.trans (hb.mono BW.out.size)); clear hb tok T8; have T9 := Go.Lib.hid True.intro)
    | (go_at_call 5; have tok := T9.out; (with_reducible refine (CN.out _ _ PM.out).mono ?_); rintro e w10 ⟨A10, c10, rfl, ho, hb⟩; have PN := Go.Lib.hid (Pfxs.of_own ho HOM.out); replace P1 := Go.Lib.hid (P1.out.keep hb); replace PM := Go.Lib.hid (PM.out.keep hb); replace BW := Go.Lib.hid (BW.out.trans (hb.mono BW.out.size)); clear hb tok T9 ho; have T10 := Go.Lib.hid True.intro)
    | (go_at_call 6; have tok := T10.out; (with_reducible refine (CM2.out _ _ PN.out).mono ?_); rintro e w11 ⟨A11, c11, rfl, ho, hb⟩; have PM2 := Go.Lib.hid (Pfxs.of_own ho HOM.out); replace P1 := Go.Lib.hid (P1.out.keep hb); replace PM := Go.Lib.hid (PM.out.keep hb); replace BW := Go.Lib.hid (BW.out.trans (hb.mono BW.out.size)); clear hb tok T10 ho; have T11 := Go.Lib.hid True.intro)
    | (go_at_call 8; have tok := T11.out; (with_reducible refine (CE.out _ _ _ PM2.out PM.out).mono ?_); rintro e w12 ⟨rfl, hb⟩; replace P1 := Go.Lib.hid (P1.out.keep hb); replace BW := Go.Lib.hid (BW.out.trans (hb.mono BW.out.size)); clear hb tok T11; have T12 := Go.Lib.hid True.intro)
    | (go_at_call 12; have tok := T12.out; (with_reducible refine (CR.out _ _ P1.out).mono ?_); rintro e w13 ⟨A13, c13, rfl, ho, hb⟩; have PS := Go.Lib.hid (Pfxs.of_own ho HOS.out); replace P1 := Go.Lib.hid (P1.out.keep hb); replace BW := Go.Lib.hid (BW.out.trans (hb.mono BW.out.size)); clear hb tok T12 ho; have T13 := Go.Lib.hid True.intro))
  clear CF0 CM CO CX CS CZ CN CM2 CR CE PM HOM T13
  have hS0 := PS.out
  go_loopw [6, 7] (fun v6 v7 wx => ∃ (i m : Nat) (A : Option Addr) (c : Nat), i ≤ S.length ∧ m ≤ i ∧ v7 = .int .i64 i ∧ v6 = .slice A m c ∧ Hid (m = (barePick S i).length) ∧ Hid (wx.ownsRow w13.heap.size 35 2 (.slice A m c) m (pcells (barePick S i))) ∧ Hid (Below w13.heap.size w13 wx)) (fun _ v7 _ => S.length - (intOf v7).toNat)
  case atStart => exact ⟨0, 0, _, 0, Nat.zero_le _, Nat.le_refl _, rfl, rfl, Go.Lib.hid rfl, Go.Lib.hid (own_blk2 (Nat.le_refl _) (heap_alloc_new _ _)), Go.Lib.hid ((Below.refl _ w13).alloc (Nat.le_refl _) _)⟩
  case round =>
    obtain ⟨i, m, Ar, cr, hi, hmi, rfl, rfl, hm, hown, hb⟩ := hrel
    by_cases hlt : i < S.length
    · obtain ⟨p, hp⟩ : ∃ p, S[i]? = some p := ⟨_, List.getElem?_eq_getElem hlt⟩
      have gp := HGS.out p (List.mem_of_getElem? hp)
      have z0 : (0 : Int) ≤ (i : Int) := by omega
      have z1 : (i : Int) < (S.length : Int) := by omega
      have z1' : i + 1 ≤ S.length := hlt
      have HPI := Go.Lib.hid hp
      have hm4 : m ≤ 30 := by omega
      obtain ⟨b, off, rfl, hbl, k0, k1⟩ := (hS0.keep hb.out).at_ hp
      have HKC := Go.Lib.hid (fun (W : World) (h : Below wr.heap.size wr W) => (⟨(h.cell (p := ⟨b, off + i * 2, none⟩) hbl).trans k0, (h.cell (p := ⟨b, off + i * 2 + 1, none⟩) hbl).trans k1⟩ : W.cell? ⟨b, off + i * 2, none⟩ = some (.int .u32 p.a) ∧ W.cell? ⟨b, off + i * 2 + 1, none⟩ = some (.int .i64 p.n)))
      clear k0 k1 hbl hlt
      obtain ⟨wo, hwo⟩ : ∃ x, x = wr := ⟨_, rfl⟩
      subst hwo
      go_wp2
      go_loopw [8, 9] (fun v8 v9 wx => ∃ (k : Nat) (d : Bool), k ≤ S.length ∧ v9 = .int .i64 k ∧ v8 = .bool d ∧ Hid (d = bareTo S i k) ∧ Hid (Below wo.heap.size wo wx)) (fun _ v9 _ => S.length - (intOf v9).toNat)
      case atStart => exact ⟨0, true, Nat.zero_le _, rfl, rfl, Go.Lib.hid rfl, Go.Lib.hid (Below.refl _ _)⟩
      case round =>
        obtain ⟨k, d, hk, rfl, rfl, hd, hbo⟩ := hrel
        by_cases hlk : k < S.length
        · obtain ⟨q, hq⟩ : ∃ q, S[k]? = some q := ⟨_, List.getElem?_eq_getElem hlk⟩
          have gq := HGS.out q (List.mem_of_getElem? hq)
          have x0 : (0 : Int) ≤ (k : Int) := by omega
          have x1 : (k : Int) < (S.length : Int) := by omega
          have x1' : k + 1 ≤ S.length := hlk
          have HST := Go.Lib.hid (bareTo_step HPI.out hq)
          cases d with
          | false =>
            have HD := Go.Lib.hid (show false = bareTo S i (k + 1) by rw [HST.out, ← hd.out]; rfl)
            clear hq gq hlk
            go_wp2
            refine wp_region_quiet_below (by kernel_rfl) (by kernel_rfl) ?_
            repeat (first | go_big_quiet_step (fail) | quiet_step (fail))
            refine wpQuiet_nil ?_
            intro _ hw'
            obtain ⟨⟨dq, osq⟩, hw2⟩ := hw'
            subst hw2
            go_wp2
            go_roundw
            case rel => exact ⟨k + 1, false, x1', by go_num, rfl, HD, Go.Lib.hid (hbo.out.trans ((below_regrown wr dq osq).mono hbo.out.size))⟩
            case measure => simp [intOf]; omega
          | true =>
            by_cases hki : k = i
            · subst hki
              have HD := Go.Lib.hid (show true = bareTo S k (k + 1) by rw [HST.out, ← hd.out]; simp)
              clear hq gq hlk
              go_wp2
              refine wp_region_quiet_below (by kernel_rfl) (by kernel_rfl) ?_
              repeat (first | go_big_quiet_step (fail) | quiet_step (fail))
              refine wpQuiet_nil ?_
              intro _ hw'
              obtain ⟨⟨dq, osq⟩, hw2⟩ := hw'
              subst hw2
              go_wp2
              go_roundw
              case rel => exact ⟨k + 1, true, x1', by go_num, rfl, HD, Go.Lib.hid (hbo.out.trans ((below_regrown wr dq osq).mono hbo.out.size))⟩
              case measure => simp [intOf]; omega
            · have y0 : ((k : Int) == (i : Int)) = false := by simp; omega
              have y1 : ¬ ((k : Int) = (i : Int)) := by omega
              have hrow := (hS0.keep hb.out).keep hbo.out
              obtain ⟨b2, o2, e2, hb2, e0, e1⟩ := hrow.at_ hq
              injection e2 with e2
              injection e2 with e2 e3
              subst e2 e3
              obtain ⟨f0, f1⟩ := HKC.out _ hbo.out
              have CV := inRegion (fun W => refCovers_any q.a q.n p.a p.n gq.2 gp.2 W) wr
              rw [show coversB q.a q.n p.a p.n = cov q p from rfl] at CV
              have HD := Go.Lib.hid (show (!cov q p) = bareTo S i (k + 1) by rw [HST.out, ← hd.out, show (k == i) = false by simpa using hki]; simp)
              obtain ⟨qa, qn⟩ := q
              obtain ⟨pa, pn⟩ := p
              dsimp only at e0 e1 f0 f1 CV
              generalize cov ⟨qa, qn⟩ ⟨pa, pn⟩ = r at CV HD
              have r0 := cell_regrown e0
              have r1 := cell_regrown e1
              have r2 := cell_regrown f0
              have r3 := cell_regrown f1
              clear hq gq hlk hrow hb2 e0 e1 f0 f1 hki
              go_wp2
              refine wp_region_quiet_below (by kernel_rfl) (by kernel_rfl) ?_
              repeat (first | go_big_quiet_step (exact CV _ _) | quiet_step (exact CV _ _))
              refine wpQuiet_nil ?_
              intro _ hw'
              obtain ⟨⟨dq, osq⟩, hw2⟩ := hw'
              subst hw2
              go_wp2
              go_roundw
              case rel => exact ⟨k + 1, !r, x1', by go_num, rfl, HD, Go.Lib.hid (hbo.out.trans ((below_regrown wr dq osq).mono hbo.out.size))⟩
              case measure => simp [intOf]; omega
        · have x1 : decide ((k : Int) < (S.length : Int)) = false := decide_eq_false (by omega)
          have HJ := Go.Lib.hid (show d = bareTo S i S.length by rw [hd.out]; congr 1; omega)
          have BO := Go.Lib.hid (hb.out.trans (hbo.out.mono hb.out.size))
          have OO := Go.Lib.hid (own_keep hown.out hbo.out)
          obtain ⟨f0, f1⟩ := HKC.out _ hbo.out
          clear hd
          cases d with
          | false =>
            have HBP := Go.Lib.hid (barePick_no HJ.out.symm)
            go_wp2
            go_roundw
            case rel => exact ⟨i + 1, m, _, _, z1', by omega, by go_num, rfl, Go.Lib.hid (by rw [HBP.out]; exact hm.out), Go.Lib.hid (by rw [HBP.out]; exact OO.out), BO⟩
            case measure => simp [intOf]; omega
          | true =>
            have HBP := Go.Lib.hid (barePick_yes HPI.out HJ.out.symm)
            obtain ⟨pa, pn⟩ := p
            dsimp only at f0 f1
            go_wp2_with (at_builtin; refine wpList_append_row rfl (.tmp 72) (.tmp 77) rfl E0 w13.heap.size _ m (pcells (barePick S i)) rfl ?_ _ 1 [.int .u32 pa, .int .i64 pn] rfl ?_ ?_ (by unfold maxLen; omega) (by omega) ?_ (m + 1) rfl ?_; exact own_keep OO.out ((Below.refl _ _).alloc (Nat.le_refl _) _); exact row_new2 _ _ _ _; exact ones2 _ _ _ _; exact (BO.out.alloc BO.out.size _).size; intro A1 c1 x4 hown1 hg1 hat1 hb1; have O4 := Go.Lib.hid hown1; have B4 := Go.Lib.hid ((BO.out.alloc BO.out.size _).trans hb1); clear hown1 hg1 hat1 hb1)
            go_roundw
            case rel => exact ⟨i + 1, m + 1, A1, c1, z1', by omega, by go_num, rfl, Go.Lib.hid (by rw [HBP.out, hm.out, List.length_append]; rfl), Go.Lib.hid (by rw [HBP.out]; exact own_snoc O4.out), B4⟩
            case measure => simp [intOf]; omega
    · have z1 : decide ((i : Int) < (S.length : Int)) = false := decide_eq_false (by omega)
      have HJ := Go.Lib.hid (show barePick S i = U by rw [← HBT.out]; congr 1; omega)
      rw [HJ.out] at hm hown
      have PU := Go.Lib.hid (show Pfxs wr (.slice Ar m cr) U from Pfxs.of_own (by rw [← hm.out]; exact hown.out) HOU.out)
      replace P1 := Go.Lib.hid (P1.out.keep hb.out)
      replace BW := Go.Lib.hid (BW.out.trans (hb.out.mono BW.out.size))
      have T20 := Go.Lib.hid True.intro
      clear hm hown hb
      go_wp2_with (first
        | (go_at_call 5; have tok := T20.out; (with_reducible refine (CF.out _ _ P1.out).mono ?_); rintro e w21 ⟨A21, c21, rfl, ho, hb⟩; have P21 := Go.Lib.hid (Pfxs.of_own ho HOK.out); replace PU := Go.Lib.hid (PU.out.keep hb); replace BW := Go.Lib.hid (BW.out.trans (hb.mono BW.out.size)); clear hb tok T20 ho; have T21 := Go.Lib.hid True.intro)
        | (go_at_call 14; have tok := T21.out; (with_reducible refine (CT.out _ _ P21.out).mono ?_); rintro e w22 ⟨A22, c22, rfl, ho, hb⟩; have P22 := Go.Lib.hid (Pfxs.of_own ho HOU.out); replace PU := Go.Lib.hid (PU.out.keep hb); replace BW := Go.Lib.hid (BW.out.trans (hb.mono BW.out.size)); clear hb tok T21 ho; have T22 := Go.Lib.hid True.intro)
        | (go_at_call 8; have tok := T22.out; (with_reducible refine (CU.out _ _ _ P22.out PU.out).mono ?_); rintro e w23 ⟨rfl, hb⟩; replace BW := Go.Lib.hid (BW.out.trans (hb.mono BW.out.size)); clear hb tok T22; have T23 := Go.Lib.hid True.intro)
        | (go_at_call 15; have tok := T23.out; (with_reducible refine (lives_any _).mono ?_); rintro e w24 ⟨rfl, hb⟩; replace BW := Go.Lib.hid (BW.out.trans (hb.mono BW.out.size)); clear hb tok T23; have T24 := Go.Lib.hid True.intro))
      go_ret
      exact ⟨rfl, BW.out⟩
end Go.Proofs.Ytgjdpmpbldofpaa.Wlk
