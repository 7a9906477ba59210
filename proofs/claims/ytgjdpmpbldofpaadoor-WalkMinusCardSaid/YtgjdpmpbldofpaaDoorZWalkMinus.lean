import Derived.Test.YtgjdpmpbldofpaaDoorWlkMerge
import Derived.Test.YtgjdpmpbldofpaaDoorWlkSpan
import Derived.Test.YtgjdpmpbldofpaaDoorWlkROf
import Derived.Test.YtgjdpmpbldofpaaDoorWlkFillP
import Derived.Test.YtgjdpmpbldofpaaDoorWlkBothP
import Derived.Test.YtgjdpmpbldofpaaDoorWlkRPfx
import Derived.Test.YtgjdpmpbldofpaaDoorWlkRBoth
import Derived.Test.YtgjdpmpbldofpaaDoorWlkSame
import Derived.Test.YtgjdpmpbldofpaaDoorPfxFew
import Derived.Test.YtgjdpmpbldofpaaDoorCards
import Derived.Test.YtgjdpmpbldofpaaDoorTie
import Derived.WalkKit
import Derived.ProofKit
import Derived.OpenShut
import Derived.Deep.DeepHandedRow
import Derived.Lib.LaidTab
import Derived.Lib.SmallJoins
import Derived.Test.YtgjdpmpbldofpaaDoorWlkTz
import Derived.Stop.LaidErr
import Derived.Test.YtgjdpmpbldofpaaDoorOpenPf
import Derived.Test.YtgjdpmpbldofpaaDoorOpenPfxs
/- The law's lives. -/
namespace Go.Proofs.YtgjdpmpbldofpaaDoor.Wlk
open Go.RowKit Mem Pfx PR Oct

def pA : Pf := ⟨167772160, 9⟩
def pB : Pf := ⟨176160768, 9⟩
def pC : Pf := ⟨167772160, 8⟩
theorem lv1 : mergeL (topsL (sortP [pA, pB])) = [pC] := by kernel_rfl
theorem lv2 : spanL (topsL (sortP [pC])) = 16777216 := by kernel_rfl
theorem okAB : Oks [pA, pB] := fun p hp => by
  rcases List.mem_cons.1 hp with rfl | hp
  · exact ⟨by decide, by decide⟩
  · rw [List.mem_singleton] at hp
    subst hp
    exact ⟨by decide, by decide⟩
theorem okC : Oks [pC] := fun p hp => by
  rw [List.mem_singleton] at hp
  subst hp
  exact ⟨by decide, by decide⟩
set_option maxHeartbeats 4000000 in
theorem lives_any (w : World) : Calls Tryd.prog 15 #[] w (Tells (.bool true) w) := by
  have hrow : Pfxs (w.alloc (.cells #[.int .u32 (167772160 : Int), .int .i64 9, .int .u32 (176160768 : Int), .int .i64 9] 24)) (.slice (some ⟨w.heap.size, 0, none⟩) 2 2) [pA, pB] :=
    Pfxs.of_own (base := w.heap.size) (e := 24) ⟨rfl, .inr ⟨w.heap.size, 2, _, rfl, Nat.le_refl _, heap_alloc_new _ _, Nat.le_refl _, by decide, rfl, rfl⟩⟩ okAB
  have CM := Go.Lib.hid (merge_any _ _ _ hrow (by decide))
  rw [lv1] at CM
  have HB := Go.Lib.hid (below_new w (.cells #[.int .u32 (167772160 : Int), .int .i64 9, .int .u32 (176160768 : Int), .int .i64 9] 24))
  have CS := Go.Lib.hid (fun (W : World) (v : Value) (h : Pfxs W v [pC]) => show Calls Tryd.prog 13 #[v] W (Tells (.int .i64 16777216) W) from by
    have := span_any v _ W h (by decide)
    rw [lv2] at this
    exact this)
  clear hrow
  go_enter Tryd.func15, Tryd.ntmps15
  go_wp2_with (first
    | (go_at_call 22; (with_reducible refine (CM.out).mono ?_); rintro e w1 ⟨A, c, rfl, ho, hb⟩; have B1 := Go.Lib.hid (HB.out.trans (hb.mono HB.out.size)); have hp := (show Pfxs w1 (.slice A 1 c) [pC] from Pfxs.of_own ho okC); have HP := Go.Lib.hid hp; obtain ⟨b, off, rfl, hbl, k0, k1⟩ := hp.at_ (i := 0) (p := pC) rfl; rw [show off + 0 * 2 = off by omega] at k0 k1; (simp only [pC] at k0 k1); clear ho hb)
    | (go_at_call 13; (with_reducible refine (CS.out _ _ HP.out).mono ?_); rintro e w2 ⟨rfl, hb2⟩; have B2 := Go.Lib.hid (B1.out.trans (hb2.mono B1.out.size)); clear hb2))
  go_ret
  exact ⟨rfl, B2.out⟩
end Go.Proofs.YtgjdpmpbldofpaaDoor.Wlk

/- The reference's Rest. -/
namespace Go.Proofs.YtgjdpmpbldofpaaDoor.Wlk
open Go.RowKit Mem Pfx PR Oct

theorem restT_go {l : List Pt} {i a : Nat} {p : Pt} (h : l[i]? = some p) : restT a (l.drop i) = gapT a p ++ restT (p.B + 1) (l.drop (i + 1)) := by
  obtain ⟨h1, h2⟩ := List.getElem?_eq_some_iff.1 h
  rw [List.drop_eq_getElem_cons h1, h2]
  rfl
set_option maxHeartbeats 8000000 in
theorem rrest_any (v : Value) (l : List Pt) (w : World) (hv : Pts w v l) (hn : Norm l) (hl : l.length ≤ 1000) : Calls Tryd.prog 11 #[v] w (GivesT (restT 0 l) w) := by
  obtain ⟨i0, E0⟩ := elemT
  obtain ⟨A, c, rfl, hlc, hc⟩ := hv.form
  have HV := Go.Lib.hid hv
  have HI := Go.Lib.hid hn.ins
  have H0 := Go.Lib.hid (show (w.alloc (.cells #[] 42)).ownsRow w.heap.size 42 2 (.slice (some ⟨w.heap.size, 0, none⟩) 0 0) 0 (tcells []) from own_blkT (Nat.le_refl _) (heap_alloc_new _ _))
  have HB := Go.Lib.hid (show Below w.heap.size w (w.alloc (.cells #[] 42)) from (Below.refl _ w).alloc (Nat.le_refl _) _)
  clear hv hn
  go_enter Tryd.func11, Tryd.ntmps11
  go_wp2
  go_loopw [3, 4, 5] (fun v3 v4 v5 wx => ∃ (i m a : Nat) (x : Int) (B : Option Addr) (d : Nat) (O : List Pt), i ≤ l.length ∧ m ≤ i ∧ v5 = .int .i64 i ∧ v4 = .int .i64 x ∧ v3 = .slice B m d ∧ 0 ≤ x ∧ x ≤ 4294967296 ∧ Hid (x = (a : Int)) ∧ Hid (O ++ restT a (l.drop i) = restT 0 l) ∧ Hid (m = O.length) ∧ Hid (wx.ownsRow w.heap.size 42 2 (.slice B m d) m (tcells O)) ∧ Hid (Below w.heap.size w wx)) (fun _ _ v5 _ => l.length - (intOf v5).toNat)
  case atStart => exact ⟨0, 0, 0, 0, _, 0, [], Nat.zero_le _, Nat.le_refl _, rfl, rfl, rfl, by omega, by omega, Go.Lib.hid rfl, Go.Lib.hid rfl, Go.Lib.hid rfl, H0, HB⟩
  case round =>
    obtain ⟨i, m, a, x, B, d, O, hi, hmi, rfl, rfl, rfl, hx0, hx1, hxa, hO, hm, hown, hb⟩ := hrel
    by_cases hlt : i < l.length
    · obtain ⟨p, hp⟩ : ∃ p, l[i]? = some p := ⟨_, List.getElem?_eq_getElem hlt⟩
      have hip := HI.out p (List.mem_of_getElem? hp)
      unfold InT at hip
      obtain ⟨bl, off, rfl, hbl, k0, k1⟩ := (HV.out).at_ hp
      have HKC := Go.Lib.hid (fun (W : World) (h : Below w.heap.size w W) => (⟨(h.cell (p := ⟨bl, off + i * 2, none⟩) hbl).trans k0, (h.cell (p := ⟨bl, off + i * 2 + 1, none⟩) hbl).trans k1⟩ : W.cell? ⟨bl, off + i * 2, none⟩ = some (.int .i64 p.A) ∧ W.cell? ⟨bl, off + i * 2 + 1, none⟩ = some (.int .i64 p.B)))
      have z0 : (0 : Int) ≤ (i : Int) := by omega
      have z1 : (i : Int) < (l.length : Int) := by omega
      have z1' : i + 1 ≤ l.length := hlt
      have hg := restT_go (a := a) hp
      rw [← hO.out] at *
      obtain ⟨pA, hpA⟩ : ∃ y : Int, (p.A : Int) = y := ⟨_, rfl⟩
      obtain ⟨pB, hpB⟩ : ∃ y : Int, (p.B : Int) = y := ⟨_, rfl⟩
      rw [hpA, hpB] at HKC
      have b0 : 0 ≤ pA := by omega
      have b1 : pA ≤ pB := by omega
      have b2 : pB ≤ 4294967295 := by omega
      have hm4 : m ≤ 1000 := by omega
      obtain ⟨c0, c1⟩ := HKC.out _ hb.out
      have HPB := Go.Lib.hid (show pB + 1 = ((p.B + 1 : Nat) : Int) by omega)
      by_cases hxA : x < pA
      · have y0 : decide (x < pA) = true := decide_eq_true hxA
        have HG := Go.Lib.hid (show restT a (l.drop i) = [⟨a, p.A - 1⟩] ++ restT (p.B + 1) (l.drop (i + 1)) by rw [hg]; unfold gapT; rw [if_pos (by have := hxa.out; omega)])
        have HPT := Go.Lib.hid (show ((⟨a, p.A - 1⟩ : Pt).A : Int) = x ∧ ((⟨a, p.A - 1⟩ : Pt).B : Int) = pA - 1 by have := hxa.out; dsimp only; omega)
        clear hg hp hip hpA hpB k0 k1 hbl hlt
        go_wp2_with (at_builtin; refine wpList_append_row rfl (.tmp 20) (.tmp 29) rfl E0 w.heap.size _ m (tcells O) rfl ?_ _ 1 [.int .i64 x, .int .i64 (pA - 1)] rfl ?_ ?_ (by unfold maxLen; omega) (by omega) ?_ (m + 1) rfl ?_; exact own_keep hown.out ((Below.refl _ _).alloc (Nat.le_refl _) _); exact row_new2 _ _ _ _; exact ones2 _ _ _ _; exact (hb.out.alloc hb.out.size _).size; intro A1 c1' w4 hown1 hg1 hat1 hb1; have O4 := Go.Lib.hid hown1; have B4 := Go.Lib.hid ((hb.out.alloc hb.out.size _).trans hb1); (clear hown1 hg1 hat1 hb1 c0 c1); obtain ⟨c0, c1⟩ := HKC.out _ B4.out)
        go_roundw
        case rel => exact ⟨i + 1, m + 1, p.B + 1, pB + 1, A1, c1', O ++ [⟨a, p.A - 1⟩], z1', by omega, by go_num, rfl, rfl, by omega, by omega, HPB, Go.Lib.hid (by rw [← hO.out, HG.out, List.append_assoc]), Go.Lib.hid (by rw [List.length_append, hm.out]; rfl), Go.Lib.hid (own_snocT HPT.out.1 HPT.out.2 O4.out), B4⟩
        case measure => simp [intOf]; omega
      · have y0 : decide (x < pA) = false := decide_eq_false hxA
        have HG := Go.Lib.hid (show restT a (l.drop i) = restT (p.B + 1) (l.drop (i + 1)) by rw [hg]; unfold gapT; rw [if_neg (by have := hxa.out; omega)]; rfl)
        clear hg hp hip hpA hpB k0 k1 hbl hlt
        go_wp2
        go_roundw
        case rel => exact ⟨i + 1, m, p.B + 1, pB + 1, B, d, O, z1', by omega, by go_num, rfl, rfl, by omega, by omega, HPB, Go.Lib.hid (by rw [← hO.out, HG.out]), hm, hown, hb⟩
        case measure => simp [intOf]; omega
    · have z1 : decide ((i : Int) < (l.length : Int)) = false := decide_eq_false (by omega)
      have hm4 : m ≤ 1000 := by omega
      by_cases hx4 : x < 4294967296
      · have y0 : decide (x < 4294967296) = true := decide_eq_true hx4
        have HE := Go.Lib.hid (show restT 0 l = O ++ [⟨a, 4294967295⟩] by
          rw [← hO.out, List.drop_of_length_le (by omega)]
          unfold restT lastT
          rw [if_pos (by have := hxa.out; omega)])
        have HPT := Go.Lib.hid (show ((⟨a, 4294967295⟩ : Pt).A : Int) = x ∧ ((⟨a, 4294967295⟩ : Pt).B : Int) = 4294967295 from ⟨hxa.out.symm, rfl⟩)
        go_wp2_with (at_builtin; refine wpList_append_row rfl (.tmp 39) (.tmp 42) rfl E0 w.heap.size _ m (tcells O) rfl ?_ _ 1 [.int .i64 x, .int .i64 4294967295] rfl ?_ ?_ (by unfold maxLen; omega) (by omega) ?_ (m + 1) rfl ?_; exact own_keep hown.out ((Below.refl _ _).alloc (Nat.le_refl _) _); exact row_new2 _ _ _ _; exact ones2 _ _ _ _; exact (hb.out.alloc hb.out.size _).size; intro A1 c1' w4 hown1 hg1 hat1 hb1; have O4 := Go.Lib.hid hown1; have B4 := Go.Lib.hid ((hb.out.alloc hb.out.size _).trans hb1); clear hown1 hg1 hat1 hb1)
        go_ret
        have hN : (restT 0 l).length = m + 1 := by rw [HE.out, List.length_append, hm.out]; rfl
        exact ⟨A1, c1', by rw [hN]; rfl, by rw [hN, HE.out]; exact own_snocT HPT.out.1 HPT.out.2 O4.out, B4.out⟩
      · have y0 : decide (x < 4294967296) = false := decide_eq_false hx4
        have HE := Go.Lib.hid (show restT 0 l = O by
          rw [← hO.out, List.drop_of_length_le (by omega)]
          unfold restT lastT
          rw [if_neg (by have := hxa.out; omega), List.append_nil])
        go_wp2
        go_ret
        exact ⟨B, d, by rw [HE.out, ← hm.out]; rfl, by rw [HE.out, ← hm.out]; exact hown.out, hb.out⟩
end Go.Proofs.YtgjdpmpbldofpaaDoor.Wlk

/- walk.Minus. -/
namespace Go.Proofs.YtgjdpmpbldofpaaDoor.Wlk
open Go.RowKit Mem Pfx PR Oct

theorem both_len : ∀ (n : Nat) (a b : List Pf), a.length + b.length ≤ n → (bothL a b).length ≤ a.length + b.length
  | n, [], b, _ => by rw [both_nil_l]; simp
  | n, p :: a, [], _ => by rw [both_nil_r]; simp
  | 0, p :: a, q :: b, h => by simp at h
  | n + 1, p :: a, q :: b, hn => by
    simp only [List.length_cons] at hn
    rw [both_go]
    split
    · have := both_len n (p :: a) b (by simp only [List.length_cons]; omega)
      simp only [List.length_cons] at this ⊢
      omega
    split
    · have := both_len n a (q :: b) (by simp only [List.length_cons]; omega)
      simp only [List.length_cons] at this ⊢
      omega
    split
    · have := both_len n a (q :: b) (by simp only [List.length_cons]; omega)
      simp only [List.length_cons] at this ⊢
      omega
    · have := both_len n (p :: a) b (by simp only [List.length_cons]; omega)
      simp only [List.length_cons] at this ⊢
      omega
/-- What the rest of a prefix is. -/
def minusL (p : Pf) (l : List Pf) : List Pf := if good p then leftL p.a (p.a + sz p) (bothL [p] (mergedL l)) else []
theorem drop_at {Q : List Pf} {j : Nat} {q : Pf} (h : Q[j]? = some q) : Q.drop j = q :: Q.drop (j + 1) := by
  obtain ⟨h1, h2⟩ := List.getElem?_eq_some_iff.1 h
  rw [List.drop_eq_getElem_cons h1, h2]
set_option maxHeartbeats 4000000 in
theorem minus_bad (p : Pf) (vl : Value) (l : List Pf) (w : World) (hok : p.a < 4294967296) (hg : good p = false) : Calls Tryd.prog 6 #[.agg #[.int .u32 p.a, .int .i64 p.n], vl] w (GivesP (minusL p l) w) := by
  have CE := Go.Lib.hid (fun W => ends_bad p hok hg W)
  have HM := Go.Lib.hid (show minusL p l = [] by unfold minusL; rw [if_neg (by rw [hg]; decide)])
  have HB := Go.Lib.hid (below_new w (.cells #[.int .u32 (p.a : Int), .int .i64 p.n] 24))
  obtain ⟨pa, pn⟩ := p
  dsimp only at CE HB ⊢
  clear hg hok
  go_enter Tryd.func6, Tryd.ntmps6
  go_wp2_with (go_at_call 16; refine (CE.out _).mono ?_; rintro e w1 ⟨rfl, hb⟩; replace HB := Go.Lib.hid (Pfx.Below.tr HB.out hb); clear hb)
  go_ret
  exact ⟨none, 0, by rw [HM.out]; rfl, by rw [HM.out]; exact own_nil2 _ _, HB.out⟩
set_option maxRecDepth 100000 in
set_option maxHeartbeats 16000000 in
theorem minus_good (p : Pf) (vl : Value) (l : List Pf) (w : World) (gp : G p) (hvl : Pfxs w vl l) (hl : l.length ≤ 100) (hT : TabZ w) : Calls Tryd.prog 6 #[.agg #[.int .u32 p.a, .int .i64 p.n], vl] w (GivesP (minusL p l) w) := by
  have hm1 : mergedL [p] = [p] := merged_self (canon_one gp)
  obtain ⟨m1, m2, m3⟩ := merged_is hvl.2
  obtain ⟨q1, q2⟩ := both_canon (canon_one gp) m1
  have hlen := both_len _ [p] (mergedL l) (Nat.le_refl _)
  simp only [List.length_cons, List.length_nil] at hlen
  have hin : ∀ q ∈ bothL [p] (mergedL l), p.a ≤ q.a ∧ q.a + sz q ≤ p.a + sz p := by
    intro q hq
    have gq := q1.good q hq
    have sq := sz_pos q
    have h1 := (has_one p _).1 ((q2 q.a).1 ⟨q, hq, inP_self q⟩).1
    have h2 := (has_one p _).1 ((q2 (q.a + sz q - 1)).1 ⟨q, hq, by unfold inP; omega⟩).1
    unfold inP at h1 h2
    omega
  have HM := Go.Lib.hid (show minusL p l = leftL p.a (p.a + sz p) (bothL [p] (mergedL l)) by unfold minusL; rw [if_pos gp.1])
  have CE := Go.Lib.hid (fun W => ends_any p gp W)
  have CB := Go.Lib.hid (fun (W : World) (v : Value) (hv : Pfxs W v [p]) (h : Below w.heap.size w W) => show Calls Tryd.prog 12 #[v, vl] W (GivesP (bothL [p] (mergedL l)) W) from by
    have := both_any v vl [p] l W hv (hvl.keep h) (by simp) (by omega)
    rw [hm1] at this
    exact this)
  have HQ := Go.Lib.hid q1
  have HIN := Go.Lib.hid hin
  have hQ : (bothL [p] (mergedL l)).length ≤ 200 := by omega
  have HT := Go.Lib.hid (fun (W : World) (h : Below w.heap.size w W) => And.intro (tabz_below hT h) (block_lt_of_cell (hT.cell gTz 0 (by decide))))
  have HBP := Go.Lib.hid (below_new w (.cells #[.int .u32 (p.a : Int), .int .i64 p.n] 24))
  obtain ⟨c0, c1⟩ := cells_two w (.int .u32 (p.a : Int)) (.int .i64 p.n) 24
  obtain ⟨e, he⟩ : ∃ e, e = p.a + sz p := ⟨_, rfl⟩
  have HE4 := Go.Lib.hid (show p.a < e ∧ e ≤ 4294967296 from ⟨by rw [he]; have := sz_pos p; omega, by rw [he]; exact gp.top⟩)
  rw [← he] at CE HM HIN
  obtain ⟨u, hu⟩ : ∃ u : Int, u = ((e - 1 : Nat) : Int) := ⟨_, rfl⟩
  rw [← hu] at CE
  have HU := Go.Lib.hid hu
  have HPK := Go.Lib.hid (oks_G (l := [p]) (fun q hq => by rw [List.mem_singleton] at hq; rw [hq]; exact gp))
  generalize bothL [p] (mergedL l) = Q at CB HQ HIN hQ HM
  obtain ⟨pa, pn⟩ := p
  dsimp only at CE CB HBP c0 c1 HE4 HIN HM ⊢
  have T0 := Go.Lib.hid True.intro
  clear gp hvl hl hT hm1 m1 m2 m3 q1 q2 hlen hin he hu
  go_enter Tryd.func6, Tryd.ntmps6
  go_wp2_with (first
    | (go_at_call 16; have tok := T0.out; refine (CE.out _).mono ?_; rintro e' w1 ⟨rfl, hb⟩; replace c0 := keeps hb c0; replace c1 := keeps hb c1; replace HBP := Go.Lib.hid (Pfx.Below.tr HBP.out hb); have HRN := Go.Lib.hid (show Pfxs (w1.alloc (.cells #[.int .u32 (pa : Int), .int .i64 pn] 24)) (.slice (some ⟨w1.heap.size, 0, none⟩) 1 1) [⟨pa, pn⟩] from ⟨row_new2 _ _ _ _, HPK.out⟩); have HB1 := Go.Lib.hid (HBP.out.trans ((below_new w1 (.cells #[.int .u32 (pa : Int), .int .i64 pn] 24)).mono HBP.out.size)); clear hb tok T0; have T1 := Go.Lib.hid True.intro)
    | (go_at_call 12; have tok := T1.out; refine (CB.out _ _ HRN.out HB1.out).mono ?_; rintro e' w2 ⟨A2, c2, rfl, ho, hb⟩; have SQ := Go.Lib.hid (Pfxs.of_own ho (oks_G HQ.out.good)); have B2 := Go.Lib.hid (HB1.out.trans (hb.mono HB1.out.size)); clear ho hb tok T1))
  have HZ := Go.Lib.hid (show ∀ W, Below w2.heap.size w2 W → TabZ W ∧ 0 < w2.heap.size from fun W h => ⟨(HT.out W (B2.out.trans (h.mono B2.out.size))).1, Nat.lt_of_lt_of_le (HT.out w (Below.refl _ _)).2 B2.out.size⟩)
  clear CE CB HT c0 c1 HBP HRN HB1 HPK
  go_loopw [5, 8, 27] (fun v5 v8 v27 wx => ∃ (j f m d : Nat) (B : Option Addr) (D : List Pf), j ≤ Q.length ∧ v27 = .int .i64 j ∧ v5 = .int .u32 f ∧ v8 = .slice B m d ∧ m ≤ 66 * j ∧ Hid (f < e) ∧ Hid (∀ q ∈ Q.drop j, f ≤ q.a) ∧ Hid (D ++ leftL f e (Q.drop j) = leftL pa e Q) ∧ Hid (m = D.length) ∧ Hid (wx.ownsRow w2.heap.size 24 2 (.slice B m d) m (pcells D)) ∧ Hid (Below w2.heap.size w2 wx)) (fun _ _ v27 _ => Q.length - (intOf v27).toNat)
  case atStart => exact ⟨0, pa, 0, 0, none, [], Nat.zero_le _, rfl, rfl, rfl, by omega, Go.Lib.hid HE4.out.1, Go.Lib.hid (fun q hq => (HIN.out q (by simpa using hq)).1), Go.Lib.hid rfl, Go.Lib.hid rfl, Go.Lib.hid (own_nil2 _ _), Go.Lib.hid (Below.refl _ _)⟩
  case round =>
    obtain ⟨j, f, m, d, B, D, hj, rfl, rfl, rfl, hm66, hfe, hfq, hD, hm, hown, hb⟩ := hrel
    by_cases hlt : j < Q.length
    · obtain ⟨q, hq⟩ : ∃ q, Q[j]? = some q := ⟨_, List.getElem?_eq_getElem hlt⟩
      have hqm := List.mem_of_getElem? hq
      have gq := HQ.out.good q hqm
      have hqi := HIN.out q hqm
      have hdr := drop_at hq
      have hfa := hfq.out q (by rw [hdr]; exact List.mem_cons_self ..)
      have sq := sz_pos q
      have qt := gq.top
      obtain ⟨b, off, rfl, hbl, k0, k1⟩ := (SQ.out).at_ hq
      have c0 := (hb.out.cell (p := ⟨b, off + j * 2, none⟩) hbl).trans k0
      have c1 := (hb.out.cell (p := ⟨b, off + j * 2 + 1, none⟩) hbl).trans k1
      have z0 : (0 : Int) ≤ (j : Int) := by omega
      have z1 : (j : Int) < (Q.length : Int) := by omega
      have z1' : j + 1 ≤ Q.length := hlt
      have CE := Go.Lib.hid (fun W => ends_any q gq W)
      have hnx : ∀ r ∈ Q.drop (j + 1), q.a + sz q ≤ r.a := by
        have := HQ.out.apart
        rw [← List.take_append_drop j Q, hdr] at this
        have := (List.pairwise_append.1 this).2.1
        exact (List.pairwise_cons.1 this).1
      have hleft : leftL f e (Q.drop j) = fillL f q.a ++ if q.a + sz q = e then [] else leftL (q.a + sz q) e (Q.drop (j + 1)) := by rw [hdr]; rfl
      have HLF := Go.Lib.hid hleft
      have hfl := fill_len 66 f q.a (by omega) (room_start (by omega))
      have CF := Go.Lib.hid (fun (hf : f < q.a) (W : World) (ho : W.ownsRow w2.heap.size 24 2 (.slice B m d) m (pcells D)) (h : Below w2.heap.size w2 W) => show Calls Tryd.prog 20 #[.slice B m d, .int .u32 f, .int .u32 ((q.a - 1 : Nat) : Int)] W (GrowsP w2.heap.size (.slice B m d) (m + (fillL f q.a).length) (D ++ fillL f q.a) W) from by
        have := fill_any f (q.a - 1) (by omega) (by omega) B d m D w2.heap.size W ho h.size (by omega) (HZ.out W h).1 (HZ.out W h).2
        rw [show q.a - 1 + 1 = q.a by omega] at this
        exact this)
      obtain ⟨x, hx⟩ : ∃ x : Int, x = ((q.a + sz q - 1 : Nat) : Int) := ⟨_, rfl⟩
      obtain ⟨y, hy⟩ : ∃ y : Int, y = ((q.a - 1 : Nat) : Int) := ⟨_, rfl⟩
      rw [← hx] at CE
      rw [← hy] at CF
      have HX := Go.Lib.hid hx
      have HNX := Go.Lib.hid hnx
      have HSZ := Go.Lib.hid (And.intro sq (And.intro qt hqi))
      have HFL := Go.Lib.hid hfl
      have hxe : (x = u) ↔ q.a + sz q = e := by have := HU.out; have := HE4.out; omega
      have hx1 : IntKind.u32.wrap (x + 1) = ((q.a + sz q : Nat) : Int) ∨ q.a + sz q = e := by
        by_cases h : q.a + sz q = e
        · exact .inr h
        · left
          rw [IntKind.wrap_u32]
          have := HE4.out
          omega
      have hy1 : f < q.a → IntKind.u32.wrap ((q.a : Int) - 1) = y := by
        intro h
        rw [IntKind.wrap_u32]
        omega
      have HXE := Go.Lib.hid hxe
      have HX1 := Go.Lib.hid hx1
      have HY1 := Go.Lib.hid hy1
      have HFA := Go.Lib.hid hfa
      obtain ⟨qA, hqA⟩ : ∃ z : Int, z = (q.a : Int) := ⟨_, rfl⟩
      obtain ⟨fI, hfI⟩ : ∃ z : Int, z = (f : Int) := ⟨_, rfl⟩
      have HQA := Go.Lib.hid (And.intro hqA hfI)
      have HBA := Go.Lib.hid (below_new wr (.cells #[.int .u32 qA, .int .i64 q.n] 24))
      obtain ⟨d0, d1⟩ := cells_two wr (.int .u32 qA) (.int .i64 q.n) 24
      rw [← hqA] at c0 CE HY1
      rw [← hfI] at CF ⊢
      obtain ⟨qa, qn⟩ := q
      dsimp only at c0 c1 CE CF HX HNX HSZ HFL HXE HX1 HY1 HFA HQA HBA d0 d1 HLF
      clear hq hqm gq hqi hdr hfa sq qt hbl k0 k1 hnx hleft hfl hx hy hxe hx1 hy1 hqA hfI hlt
      by_cases h1 : fI < qA
      · by_cases h2 : x = u
        · have hf : f < qa := by have := HQA.out; omega
          have yA : decide (fI < qA) = true := decide_eq_true h1
          have yB : IntKind.u32.wrap (qA - 1) = y := HY1.out hf
          have CF2 := Go.Lib.hid (CF.out hf)
          have yC : (x == u) = true := by simp only [h2, beq_self_eq_true]
          have HALL := Go.Lib.hid (show leftL pa e Q = D ++ fillL f qa by rw [← hD.out, HLF.out, if_pos (HXE.out.1 h2), List.append_nil])
          go_wp2_with (first
            | (go_at_call 16; refine (CE.out _).mono ?_; rintro e' w3 ⟨rfl, hb3⟩; have R3 := Go.Lib.hid (Pfx.Below.tr HBA.out hb3); have B3 := Go.Lib.hid (hb.out.trans (R3.out.mono hb.out.size)); clear hb3 c0 c1 d0 d1)
            | (go_at_call 20; have tok := R3.out; refine (CF2.out _ (own_keep hown.out R3.out) B3.out).mono ?_; rintro e' w4 ⟨A4, c4, rfl, ho4, hg4, hat4⟩; have O4 := Go.Lib.hid ho4; have B4 := Go.Lib.hid (B3.out.trans (grown_low (own_keep hown.out R3.out) hg4 B3.out.size)); clear ho4 hg4 hat4 tok))
          go_ret
          have hN : (minusL ⟨pa, pn⟩ l).length = m + (fillL f qa).length := by rw [HM.out, HALL.out, List.length_append, hm.out]
          exact ⟨A4, c4, by rw [hN]; rfl, by rw [hN, HM.out, HALL.out]; exact own_base O4.out B2.out.size, B2.out.trans (B4.out.mono B2.out.size)⟩
        · have hf : f < qa := by have := HQA.out; omega
          have yA : decide (fI < qA) = true := decide_eq_true h1
          have yB : IntKind.u32.wrap (qA - 1) = y := HY1.out hf
          have CF2 := Go.Lib.hid (CF.out hf)
          have yC : (x == u) = false := by simp only [beq_eq_false_iff_ne, ne_eq]; exact h2
          have hne : ¬ qa + sz ⟨qa, qn⟩ = e := fun h => h2 (HXE.out.2 h)
          have yD : IntKind.u32.wrap (x + 1) = ((qa + sz ⟨qa, qn⟩ : Nat) : Int) := HX1.out.resolve_right hne
          have HALL := Go.Lib.hid (show D ++ fillL f qa ++ leftL (qa + sz ⟨qa, qn⟩) e (Q.drop (j + 1)) = leftL pa e Q by rw [← hD.out, HLF.out, if_neg hne, List.append_assoc])
          go_wp2_with (first
            | (go_at_call 16; refine (CE.out _).mono ?_; rintro e' w3 ⟨rfl, hb3⟩; have R3 := Go.Lib.hid (Pfx.Below.tr HBA.out hb3); have B3 := Go.Lib.hid (hb.out.trans (R3.out.mono hb.out.size)); clear hb3 c0 c1 d0 d1)
            | (go_at_call 20; have tok := R3.out; refine (CF2.out _ (own_keep hown.out R3.out) B3.out).mono ?_; rintro e' w4 ⟨A4, c4, rfl, ho4, hg4, hat4⟩; have O4 := Go.Lib.hid ho4; have B4 := Go.Lib.hid (B3.out.trans (grown_low (own_keep hown.out R3.out) hg4 B3.out.size)); clear ho4 hg4 hat4 tok))
          go_roundw
          case rel => exact ⟨j + 1, qa + sz ⟨qa, qn⟩, m + (fillL f qa).length, c4, A4, D ++ fillL f qa, z1', by go_num, congrArg _ (by omega), rfl, by have := HFL.out; omega, Go.Lib.hid (by have := HSZ.out.2.2; omega), HNX, HALL, Go.Lib.hid (by rw [List.length_append, hm.out]), O4, B4⟩
          case measure => simp [intOf]; omega
      · by_cases h2 : x = u
        · have hf : ¬ f < qa := by have := HQA.out; omega
          have yA : decide (fI < qA) = false := decide_eq_false h1
          have HF0 := Go.Lib.hid (show fillL f qa = [] from fillL_end (by omega))
          have yC : (x == u) = true := by simp only [h2, beq_self_eq_true]
          have HALL := Go.Lib.hid (show leftL pa e Q = D ++ fillL f qa by rw [← hD.out, HLF.out, if_pos (HXE.out.1 h2), List.append_nil])
          go_wp2_with (first
            | (go_at_call 16; refine (CE.out _).mono ?_; rintro e' w3 ⟨rfl, hb3⟩; have R3 := Go.Lib.hid (Pfx.Below.tr HBA.out hb3); have B3 := Go.Lib.hid (hb.out.trans (R3.out.mono hb.out.size)); clear hb3 c0 c1 d0 d1))
          go_ret
          have hN : (minusL ⟨pa, pn⟩ l).length = m := by rw [HM.out, HALL.out, HF0.out, List.append_nil, hm.out]
          exact ⟨B, d, by rw [hN]; rfl, by rw [hN, HM.out, HALL.out, HF0.out, List.append_nil]; exact own_base (own_keep hown.out R3.out) B2.out.size, B2.out.trans (B3.out.mono B2.out.size)⟩
        · have hf : ¬ f < qa := by have := HQA.out; omega
          have yA : decide (fI < qA) = false := decide_eq_false h1
          have HF0 := Go.Lib.hid (show fillL f qa = [] from fillL_end (by omega))
          have yC : (x == u) = false := by simp only [beq_eq_false_iff_ne, ne_eq]; exact h2
          have hne : ¬ qa + sz ⟨qa, qn⟩ = e := fun h => h2 (HXE.out.2 h)
          have yD : IntKind.u32.wrap (x + 1) = ((qa + sz ⟨qa, qn⟩ : Nat) : Int) := HX1.out.resolve_right hne
          have HALL := Go.Lib.hid (show D ++ fillL f qa ++ leftL (qa + sz ⟨qa, qn⟩) e (Q.drop (j + 1)) = leftL pa e Q by rw [← hD.out, HLF.out, if_neg hne, List.append_assoc])
          go_wp2_with (first
            | (go_at_call 16; refine (CE.out _).mono ?_; rintro e' w3 ⟨rfl, hb3⟩; have R3 := Go.Lib.hid (Pfx.Below.tr HBA.out hb3); have B3 := Go.Lib.hid (hb.out.trans (R3.out.mono hb.out.size)); clear hb3 c0 c1 d0 d1))
          go_roundw
          case rel => exact ⟨j + 1, qa + sz ⟨qa, qn⟩, m, d, B, D, z1', by go_num, congrArg _ (by omega), rfl, by omega, Go.Lib.hid (by have := HSZ.out.2.2; omega), HNX, Go.Lib.hid (by have h := HALL.out; rw [HF0.out, List.append_nil] at h; exact h), hm, Go.Lib.hid (own_keep hown.out R3.out), B3⟩
          case measure => simp [intOf]; omega
    · have z1 : decide ((j : Int) < (Q.length : Int)) = false := decide_eq_false (by omega)
      have HALL := Go.Lib.hid (show leftL pa e Q = D ++ fillL f e by rw [← hD.out, List.drop_of_length_le (by omega)]; rfl)
      have CF2 := Go.Lib.hid (show Calls Tryd.prog 20 #[.slice B m d, .int .u32 f, .int .u32 u] wr (GrowsP w2.heap.size (.slice B m d) (m + (fillL f e).length) (D ++ fillL f e) wr) from by
        have h1 := hfe.out
        have h2 := HE4.out
        have := fill_any f (e - 1) (by omega) (by omega) B d m D w2.heap.size wr hown.out hb.out.size (by omega) (HZ.out wr hb.out).1 (HZ.out wr hb.out).2
        rw [show e - 1 + 1 = e by omega, ← HU.out] at this
        exact this)
      go_wp2_with (go_at_call 20; refine (CF2.out).mono ?_; rintro e' w4 ⟨A4, c4, rfl, ho4, hg4, hat4⟩; have O4 := Go.Lib.hid ho4; have B4 := Go.Lib.hid (hb.out.trans (grown_low hown.out hg4 hb.out.size)); clear ho4 hg4 hat4)
      go_ret
      have hN : (minusL ⟨pa, pn⟩ l).length = m + (fillL f e).length := by rw [HM.out, HALL.out, List.length_append, hm.out]
      exact ⟨A4, c4, by rw [hN]; rfl, by rw [hN, HM.out, HALL.out]; exact own_base O4.out B2.out.size, B2.out.trans (B4.out.mono B2.out.size)⟩
theorem minus_any (p : Pf) (vl : Value) (l : List Pf) (w : World) (hp : p.ok) (hvl : Pfxs w vl l) (hl : l.length ≤ 100) (hT : TabZ w) : Calls Tryd.prog 6 #[.agg #[.int .u32 p.a, .int .i64 p.n], vl] w (GivesP (minusL p l) w) := by
  cases hg : good p with
  | false => exact minus_bad p vl l w hp.1 hg
  | true => exact minus_good p vl l w ⟨hg, hp.1⟩ hvl hl hT
end Go.Proofs.YtgjdpmpbldofpaaDoor.Wlk

/- The law WalkMinus, ahead of its walk: what is right. -/
namespace Go.Proofs.YtgjdpmpbldofpaaDoor.Wlk
open Go.RowKit Mem Pfx PR Oct

theorem pfxT_len : ∀ (l : List Pt), Norm l → (pfxT l).length ≤ 66 * l.length
  | [], _ => by simp [pfxT]
  | p :: l, hn => by
    have hn1 : Norm ([p] ++ l) := hn
    have hp := hn.ins p (List.mem_cons_self ..)
    unfold InT at hp
    have h1 := pfxT_len l hn1.right
    have h2 := fill_len 66 p.A (p.B + 1) (by omega) (room_start (by omega))
    rw [show pfxT (p :: l) = fillL p.A (p.B + 1) ++ pfxT l from List.flatMap_cons, List.length_append, List.length_cons]
    omega
theorem hasG_one (p : Pf) (x : Nat) : hasG [p] x ↔ good p = true ∧ inP p x := by
  unfold hasG
  simp
theorem minus_is {p : Pf} {l : List Pf} (hp : p.ok) (hl : Oks l) : Canon (minusL p l) ∧ ∀ x, has (minusL p l) x ↔ hasG [p] x ∧ ¬ hasG l x := by
  cases hg : good p with
  | false =>
    have e : minusL p l = [] := by unfold minusL; rw [if_neg (by rw [hg]; decide)]
    rw [e]
    refine ⟨Canon.nil, fun x => ⟨fun h => absurd h (has_nil x), fun h => ?_⟩⟩
    have := ((hasG_one p x).1 h.1).1
    rw [hg] at this
    cases this
  | true =>
    have gp : G p := ⟨hg, hp.1⟩
    obtain ⟨m1, m2, m3⟩ := merged_is hl
    obtain ⟨q1, q2⟩ := both_canon (canon_one gp) m1
    have e : minusL p l = leftL p.a (p.a + sz p) (bothL [p] (mergedL l)) := by unfold minusL; rw [if_pos hg]
    rw [e]
    have hsz := sz_pos p
    have hin : ∀ q ∈ bothL [p] (mergedL l), p.a ≤ q.a ∧ q.a + sz q ≤ p.a + sz p := by
      intro q hq
      have sq := sz_pos q
      have h1 := (has_one p _).1 ((q2 q.a).1 ⟨q, hq, inP_self q⟩).1
      have h2 := (has_one p _).1 ((q2 (q.a + sz q - 1)).1 ⟨q, hq, by unfold inP; omega⟩).1
      unfold inP at h1 h2
      omega
    obtain ⟨k1, k2, k3⟩ := left_is _ p.a (p.a + sz p) q1.toRow1 hin (by omega) gp.top
    refine ⟨k1, fun x => ?_⟩
    rw [k3, q2, has_one, m2, hasG_one]
    unfold inP
    constructor
    · rintro ⟨h1, h2, h3⟩
      exact ⟨⟨hg, h1, h2⟩, fun h => h3 ⟨⟨h1, h2⟩, h⟩⟩
    · rintro ⟨⟨-, h1, h2⟩, h3⟩
      exact ⟨h1, h2, fun h => h3 h.2⟩
theorem inT_all {l : List Pf} (h : Oks l) : ∀ p ∈ ofT l, InT p := (of_is h).1.ins
theorem minus_ref {p : Pf} {l : List Pf} (hp : p.ok) (hl : Oks l) : Norm (bothT (ofT [p]) (restT 0 (ofT l))) ∧ pfxT (bothT (ofT [p]) (restT 0 (ofT l))) = minusL p l ∧ (bothT (ofT [p]) (restT 0 (ofT l))).length ≤ l.length + 1 := by
  have ho : Oks [p] := fun q hq => by rw [List.mem_singleton] at hq; rw [hq]; exact hp
  obtain ⟨o1, o2, o3⟩ := of_is ho
  obtain ⟨a1, a2, a3⟩ := of_is hl
  obtain ⟨r1, r2, r3, r4⟩ := restT_is (ofT l) 0 a1 (fun _ _ => Nat.zero_le _)
  obtain ⟨b1, b2, b3⟩ := both_is o1.ins r1.ins
  obtain ⟨c1, c2⟩ := pfxT_is _ b1
  obtain ⟨m1, m2⟩ := minus_is hp hl
  refine ⟨b1, canon_ext c1 m1 (fun x => ?_), ?_⟩
  · rw [c2, b2, o2, r3, a2, m2, hasG_one]
    constructor
    · rintro ⟨h1, -, -, h2⟩
      exact ⟨h1, h2⟩
    · rintro ⟨h1, h2⟩
      have := G.top (p := p) ⟨h1.1, hp.1⟩
      exact ⟨h1, Nat.zero_le _, by have := h1.2.2; omega, h2⟩
  · simp only [List.length_cons, List.length_nil] at o3
    refine Nat.le_trans b3 (Nat.le_trans (Nat.mul_le_mul o3 r4) ?_)
    omega
theorem both_ref {a b : List Pf} (ha : Oks a) (hb : Oks b) : Norm (bothT (ofT a) (ofT b)) ∧ pfxT (bothT (ofT a) (ofT b)) = bothL (mergedL a) (mergedL b) ∧ (bothT (ofT a) (ofT b)).length ≤ a.length * b.length := by
  obtain ⟨o1, o2, o3⟩ := of_is ha
  obtain ⟨a1, a2, a3⟩ := of_is hb
  obtain ⟨b1, b2, b3⟩ := both_is o1.ins a1.ins
  obtain ⟨c1, c2⟩ := pfxT_is _ b1
  obtain ⟨m1, m2, m3⟩ := merged_is ha
  obtain ⟨n1, n2, n3⟩ := merged_is hb
  obtain ⟨k1, k2⟩ := both_canon m1 n1
  exact ⟨b1, canon_ext c1 k1 (fun x => by rw [c2, b2, o2, a2, k2, m2, n2]), Nat.le_trans b3 (Nat.mul_le_mul o3 a3)⟩
theorem span_canon {l : List Pf} (h : Canon l) : Row1 (topsL (sortP l)) ∧ ∀ x, has (topsL (sortP l)) x ↔ has l x := by
  have ho := oks_G h.good
  obtain ⟨s1, s2, s3⟩ := sort_is ho
  obtain ⟨t1, t2, t3, t4, t5⟩ := tops_is s1 s3
  exact ⟨t1, fun x => by rw [t2, hasG_sort ho, hasG_good h.good]⟩
theorem parts_sum {p : Pf} {l : List Pf} (hp : p.ok) (hl : Oks l) : spanL (topsL (sortP (minusL p l))) + spanL (topsL (sortP (bothL (mergedL [p]) (mergedL l)))) = sizeT (ofT [p]) := by
  have ho : Oks [p] := fun q hq => by rw [List.mem_singleton] at hq; rw [hq]; exact hp
  obtain ⟨o1, o2, o3⟩ := of_is ho
  obtain ⟨m1, m2⟩ := minus_is hp hl
  obtain ⟨a1, a2, a3⟩ := merged_is ho
  obtain ⟨n1, n2, n3⟩ := merged_is hl
  obtain ⟨k1, k2⟩ := both_canon a1 n1
  obtain ⟨s1, s2⟩ := span_canon m1
  obtain ⟨t1, t2⟩ := span_canon k1
  refine span_parts s1 t1 o1 (fun x h1 h2 => ?_) (fun x => ?_)
  · rw [s2, m2] at h1
    rw [t2, k2, a2, n2] at h2
    exact h1.2 h2.2
  · rw [o2, s2, m2, t2, k2, a2, n2]
    constructor
    · intro h
      by_cases h2 : hasG l x
      · exact .inr ⟨h, h2⟩
      · exact .inl ⟨h, h2⟩
    · rintro (h | h)
      · exact h.1
      · exact h.1
end Go.Proofs.YtgjdpmpbldofpaaDoor.Wlk

/- The law WalkMinus: its great test. -/
namespace Go.Proofs.YtgjdpmpbldofpaaDoor.Wlk
open Go.RowKit Mem Pfx PR Oct

def regW (n : Nat) : Code → Option Code
  | .region m o b => if m = n then some (.region m o b) else none
  | .block _ c => regW n c
  | .loop c => regW n c
  | .scope c => regW n c
  | .seq a b => match regW n a with
    | some c => some c
    | none => regW n b
  | .cond _ a b => match regW n a with
    | some c => some c
    | none => regW n b
  | _ => none
noncomputable def mr (n : Nat) : Code := (Tryd.f3.body.bind (regW n)).getD .skip
theorem wp_codeW {C D : Code} {Q : Exit → Go.Act → World → Prop} {a : Go.Act} {w : World} (h : C = D) (H : Code.wp Tryd.prog C Q a w) : Code.wp Tryd.prog D Q a w := h ▸ H
set_option maxRecDepth 100000 in
set_option maxHeartbeats 16000000 in
theorem minus_r4 (u0 u3 u4 u5 u6 u9 u10 u11 u12 u13 u14 u15 u16 u17 u18 u19 u20 u21 u22 u23 u24 u25 u26 u27 u28 u29 u30 u31 u32 u33 u34 u35 u36 u37 u38 u39 u40 u41 u42 u43 u44 u45 u46 u47 u48 u49 u50 u51 u52 u53 u54 u55 u56 u57 u58 u59 u60 v1 v2 v7 v8 : Value) (a1 b1 PP PLL PBL : List Pf) (TOL TAL TBL TRL T1L T2L : List Pt) (w W : World) (Q : Exit → Go.Act → World → Prop)
    (CFA : Hid (∀ (W : World) (u : Value), Pfxs W u a1 → Calls Tryd.prog 5 #[u, .int .i64 20] W (GivesP a1 W)))
    (CFB : Hid (∀ (W : World) (u : Value), Pfxs W u b1 → Calls Tryd.prog 5 #[u, .int .i64 20] W (GivesP b1 W)))
    (COO : Hid (∀ (W : World) (u : Value), Pfxs W u PP → Calls Tryd.prog 10 #[u] W (GivesT TOL W)))
    (COA : Hid (∀ (W : World) (u : Value), Pfxs W u a1 → Calls Tryd.prog 10 #[u] W (GivesT TAL W)))
    (COB : Hid (∀ (W : World) (u : Value), Pfxs W u b1 → Calls Tryd.prog 10 #[u] W (GivesT TBL W)))
    (CRR : Hid (∀ (W : World) (u : Value), Pts W u TAL → Calls Tryd.prog 11 #[u] W (GivesT TRL W)))
    (CRB : Hid (∀ (W : World) (u v : Value), Pts W u TOL → Pts W v TRL → Calls Tryd.prog 9 #[u, v] W (GivesT T1L W)))
    (CRB2 : Hid (∀ (W : World) (u v : Value), Pts W u TAL → Pts W v TBL → Calls Tryd.prog 9 #[u, v] W (GivesT T2L W)))
    (CX1 : Hid (∀ (W : World) (u : Value), Pts W u T1L → Calls Tryd.prog 8 #[u] W (GivesP PLL W)))
    (CX2 : Hid (∀ (W : World) (u : Value), Pts W u T2L → Calls Tryd.prog 8 #[u] W (GivesP PBL W)))
    (CE1 : Hid (∀ (W : World) (v u : Value), Pfxs W v PLL → Pfxs W u PLL → Calls Tryd.prog 7 #[v, u] W (Tells (.bool true) W)))
    (CE2 : Hid (∀ (W : World) (v u : Value), Pfxs W v PBL → Pfxs W u PBL → Calls Tryd.prog 7 #[v, u] W (Tells (.bool true) W)))
    (CWB : Hid (∀ (W : World) (u v : Value), Pfxs W u a1 → Pfxs W v b1 → Calls Tryd.prog 12 #[u, v] W (GivesP PBL W)))
    (HOA : Hid (Oks a1)) (HOB : Hid (Oks b1)) (HOL : Hid (Oks PLL)) (HOC : Hid (Oks PBL))
    (P1 : Hid (Pfxs W v1 a1)) (P2 : Hid (Pfxs W v2 b1)) (PO : Hid (Pfxs W v7 PP)) (PL : Hid (Pfxs W v8 PLL)) (BW : Hid (Below w.heap.size w W))
    (hK : ∀ (x20 x21 x22 x23 x24 x25 x26 x27 x28 x29 x30 x31 x32 x33 x34 x35 x36 x37 x38 x39 x40 x41 x42 x43 : Value) (W' : World), Pfxs W' v1 a1 → Pfxs W' v7 PP → Pfxs W' v8 PLL → Below w.heap.size w W' → Q .normal ⟨#[u0, v1, v2, u3, u4, u5, u6, v7, v8, u9, u10, u11, u12, u13, u14, u15, u16, u17, u18, u19, x20, x21, x22, x23, x24, x25, x26, x27, x28, x29, x30, x31, x32, x33, x34, x35, x36, x37, x38, x39, x40, x41, x42, x43, .bool false, u45, u46, u47, u48, u49, u50, u51, u52, u53, u54, u55, u56, u57, u58, u59, u60], []⟩ W') :
    Code.wp Tryd.prog (mr 4) Q ⟨#[u0, v1, v2, u3, u4, u5, u6, v7, v8, u9, u10, u11, u12, u13, u14, u15, u16, u17, u18, u19, u20, u21, u22, u23, u24, u25, u26, u27, u28, u29, u30, u31, u32, u33, u34, u35, u36, u37, u38, u39, u40, u41, u42, u43, u44, u45, u46, u47, u48, u49, u50, u51, u52, u53, u54, u55, u56, u57, u58, u59, u60], []⟩ W := by
  conv => arg 2; whnf
  have T10 := Go.Lib.hid True.intro
  go_wp2_with (first
    | (go_at_call 10; have tok := T10.out; (with_reducible refine (COO.out _ _ PO.out).mono ?_); rintro e v0 ⟨G0, g0, rfl, ho, hb⟩; have TO := Go.Lib.hid (Pts.of_own ho); replace P1 := Go.Lib.hid (P1.out.keep hb); replace P2 := Go.Lib.hid (P2.out.keep hb); replace PO := Go.Lib.hid (PO.out.keep hb); replace PL := Go.Lib.hid (PL.out.keep hb); replace BW := Go.Lib.hid (BW.out.trans (hb.mono BW.out.size)); clear hb tok T10 ho; have T11 := Go.Lib.hid True.intro)
    | (go_at_call 10; have tok := T11.out; (with_reducible refine (COA.out _ _ P1.out).mono ?_); rintro e v1 ⟨G1, g1, rfl, ho, hb⟩; have TA := Go.Lib.hid (Pts.of_own ho); replace P1 := Go.Lib.hid (P1.out.keep hb); replace P2 := Go.Lib.hid (P2.out.keep hb); replace PO := Go.Lib.hid (PO.out.keep hb); replace PL := Go.Lib.hid (PL.out.keep hb); replace TO := Go.Lib.hid (TO.out.keep hb); replace BW := Go.Lib.hid (BW.out.trans (hb.mono BW.out.size)); clear hb tok T11 ho; have T12 := Go.Lib.hid True.intro)
    | (go_at_call 11; have tok := T12.out; (with_reducible refine (CRR.out _ _ TA.out).mono ?_); rintro e v2 ⟨G2, g2, rfl, ho, hb⟩; have TR := Go.Lib.hid (Pts.of_own ho); replace P1 := Go.Lib.hid (P1.out.keep hb); replace P2 := Go.Lib.hid (P2.out.keep hb); replace PO := Go.Lib.hid (PO.out.keep hb); replace PL := Go.Lib.hid (PL.out.keep hb); replace TO := Go.Lib.hid (TO.out.keep hb); replace BW := Go.Lib.hid (BW.out.trans (hb.mono BW.out.size)); clear hb tok T12 ho; have T13 := Go.Lib.hid True.intro)
    | (go_at_call 9; have tok := T13.out; (with_reducible refine (CRB.out _ _ _ TO.out TR.out).mono ?_); rintro e v3 ⟨G3, g3, rfl, ho, hb⟩; have TB := Go.Lib.hid (Pts.of_own ho); replace P1 := Go.Lib.hid (P1.out.keep hb); replace P2 := Go.Lib.hid (P2.out.keep hb); replace PO := Go.Lib.hid (PO.out.keep hb); replace PL := Go.Lib.hid (PL.out.keep hb); replace BW := Go.Lib.hid (BW.out.trans (hb.mono BW.out.size)); clear hb tok T13 ho; have T14 := Go.Lib.hid True.intro)
    | (go_at_call 8; have tok := T14.out; (with_reducible refine (CX1.out _ _ TB.out).mono ?_); rintro e v4 ⟨G4, g4, rfl, ho, hb⟩; have PX := Go.Lib.hid (Pfxs.of_own ho HOL.out); replace P1 := Go.Lib.hid (P1.out.keep hb); replace P2 := Go.Lib.hid (P2.out.keep hb); replace PO := Go.Lib.hid (PO.out.keep hb); replace PL := Go.Lib.hid (PL.out.keep hb); replace BW := Go.Lib.hid (BW.out.trans (hb.mono BW.out.size)); clear hb tok T14 ho; have T15 := Go.Lib.hid True.intro)
    | (go_at_call 7; have tok := T15.out; (with_reducible refine (CE1.out _ _ _ PL.out PX.out).mono ?_); rintro e v5 ⟨rfl, hb⟩; replace P1 := Go.Lib.hid (P1.out.keep hb); replace P2 := Go.Lib.hid (P2.out.keep hb); replace PO := Go.Lib.hid (PO.out.keep hb); replace PL := Go.Lib.hid (PL.out.keep hb); replace BW := Go.Lib.hid (BW.out.trans (hb.mono BW.out.size)); clear hb tok T15; have T16 := Go.Lib.hid True.intro)
    | (go_at_call 5; have tok := T16.out; (with_reducible refine (CFA.out _ _ P1.out).mono ?_); rintro e v6 ⟨G6, g6, rfl, ho, hb⟩; have F3 := Go.Lib.hid (Pfxs.of_own ho HOA.out); replace P1 := Go.Lib.hid (P1.out.keep hb); replace P2 := Go.Lib.hid (P2.out.keep hb); replace PO := Go.Lib.hid (PO.out.keep hb); replace PL := Go.Lib.hid (PL.out.keep hb); replace BW := Go.Lib.hid (BW.out.trans (hb.mono BW.out.size)); clear hb tok T16 ho; have T17 := Go.Lib.hid True.intro)
    | (go_at_call 5; have tok := T17.out; (with_reducible refine (CFB.out _ _ P2.out).mono ?_); rintro e v7 ⟨G7, g7, rfl, ho, hb⟩; have F4 := Go.Lib.hid (Pfxs.of_own ho HOB.out); replace P1 := Go.Lib.hid (P1.out.keep hb); replace P2 := Go.Lib.hid (P2.out.keep hb); replace PO := Go.Lib.hid (PO.out.keep hb); replace PL := Go.Lib.hid (PL.out.keep hb); replace F3 := Go.Lib.hid (F3.out.keep hb); replace BW := Go.Lib.hid (BW.out.trans (hb.mono BW.out.size)); clear hb tok T17 ho; have T18 := Go.Lib.hid True.intro)
    | (go_at_call 12; have tok := T18.out; (with_reducible refine (CWB.out _ _ _ F3.out F4.out).mono ?_); rintro e v8 ⟨G8, g8, rfl, ho, hb⟩; have PB := Go.Lib.hid (Pfxs.of_own ho HOC.out); replace P1 := Go.Lib.hid (P1.out.keep hb); replace P2 := Go.Lib.hid (P2.out.keep hb); replace PO := Go.Lib.hid (PO.out.keep hb); replace PL := Go.Lib.hid (PL.out.keep hb); replace BW := Go.Lib.hid (BW.out.trans (hb.mono BW.out.size)); clear hb tok T18 ho; have T19 := Go.Lib.hid True.intro)
    | (go_at_call 10; have tok := T19.out; (with_reducible refine (COA.out _ _ P1.out).mono ?_); rintro e v9 ⟨G9, g9, rfl, ho, hb⟩; have TA2 := Go.Lib.hid (Pts.of_own ho); replace P1 := Go.Lib.hid (P1.out.keep hb); replace P2 := Go.Lib.hid (P2.out.keep hb); replace PO := Go.Lib.hid (PO.out.keep hb); replace PL := Go.Lib.hid (PL.out.keep hb); replace PB := Go.Lib.hid (PB.out.keep hb); replace BW := Go.Lib.hid (BW.out.trans (hb.mono BW.out.size)); clear hb tok T19 ho; have T20 := Go.Lib.hid True.intro)
    | (go_at_call 10; have tok := T20.out; (with_reducible refine (COB.out _ _ P2.out).mono ?_); rintro e v10 ⟨G10, g10, rfl, ho, hb⟩; have TB2 := Go.Lib.hid (Pts.of_own ho); replace P1 := Go.Lib.hid (P1.out.keep hb); replace P2 := Go.Lib.hid (P2.out.keep hb); replace PO := Go.Lib.hid (PO.out.keep hb); replace PL := Go.Lib.hid (PL.out.keep hb); replace PB := Go.Lib.hid (PB.out.keep hb); replace TA2 := Go.Lib.hid (TA2.out.keep hb); replace BW := Go.Lib.hid (BW.out.trans (hb.mono BW.out.size)); clear hb tok T20 ho; have T21 := Go.Lib.hid True.intro)
    | (go_at_call 9; have tok := T21.out; (with_reducible refine (CRB2.out _ _ _ TA2.out TB2.out).mono ?_); rintro e v11 ⟨G11, g11, rfl, ho, hb⟩; have TC := Go.Lib.hid (Pts.of_own ho); replace P1 := Go.Lib.hid (P1.out.keep hb); replace P2 := Go.Lib.hid (P2.out.keep hb); replace PO := Go.Lib.hid (PO.out.keep hb); replace PL := Go.Lib.hid (PL.out.keep hb); replace PB := Go.Lib.hid (PB.out.keep hb); replace BW := Go.Lib.hid (BW.out.trans (hb.mono BW.out.size)); clear hb tok T21 ho; have T22 := Go.Lib.hid True.intro)
    | (go_at_call 8; have tok := T22.out; (with_reducible refine (CX2.out _ _ TC.out).mono ?_); rintro e v12 ⟨G12, g12, rfl, ho, hb⟩; have PY := Go.Lib.hid (Pfxs.of_own ho HOC.out); replace P1 := Go.Lib.hid (P1.out.keep hb); replace P2 := Go.Lib.hid (P2.out.keep hb); replace PO := Go.Lib.hid (PO.out.keep hb); replace PL := Go.Lib.hid (PL.out.keep hb); replace PB := Go.Lib.hid (PB.out.keep hb); replace BW := Go.Lib.hid (BW.out.trans (hb.mono BW.out.size)); clear hb tok T22 ho; have T23 := Go.Lib.hid True.intro)
    | (go_at_call 7; have tok := T23.out; (with_reducible refine (CE2.out _ _ _ PB.out PY.out).mono ?_); rintro e v13 ⟨rfl, hb⟩; replace P1 := Go.Lib.hid (P1.out.keep hb); replace P2 := Go.Lib.hid (P2.out.keep hb); replace PO := Go.Lib.hid (PO.out.keep hb); replace PL := Go.Lib.hid (PL.out.keep hb); replace BW := Go.Lib.hid (BW.out.trans (hb.mono BW.out.size)); clear hb tok T23; have T24 := Go.Lib.hid True.intro))
  exact hK _ _ _ _ _ _ _ _ _ _ _ _ _ _ _ _ _ _ _ _ _ _ _ _ _ P1.out PO.out PL.out BW.out
end Go.Proofs.YtgjdpmpbldofpaaDoor.Wlk

/- The law WalkMinus: its last test. -/
namespace Go.Proofs.YtgjdpmpbldofpaaDoor.Wlk
open Go.RowKit Mem Pfx PR Oct

set_option maxRecDepth 100000 in
set_option maxHeartbeats 16000000 in
theorem minus_r7 (u0 u1 u2 u3 u4 u5 u6 u10 u11 u12 u13 u14 u15 u16 u17 u18 u19 u20 u21 u22 u23 u24 u25 u26 u27 u28 u29 u30 u31 u32 u33 u34 u35 u36 u37 u38 u39 u40 u41 u42 u43 u44 u45 u46 u47 u48 u49 u50 u51 u52 u53 u54 u55 u56 u57 u58 u59 u60 v7 v8 v9 : Value) (PP PLL PIL : List Pf) (TOL : List Pt) (z1 z2 z3 : Int) (w W : World) (Q : Exit → Go.Act → World → Prop)
    (COO : Hid (∀ (W : World) (u : Value), Pfxs W u PP → Calls Tryd.prog 10 #[u] W (GivesT TOL W)))
    (CS1 : Hid (∀ (W : World) (u : Value), Pfxs W u PLL → Calls Tryd.prog 13 #[u] W (Tells (.int .i64 z1) W)))
    (CS2 : Hid (∀ (W : World) (u : Value), Pfxs W u PIL → Calls Tryd.prog 13 #[u] W (Tells (.int .i64 z2) W)))
    (CZ : Hid (∀ (W : World) (u : Value), Pts W u TOL → Calls Tryd.prog 14 #[u] W (Tells (.int .i64 z3) W)))
    (HYS : Hid (z1 + z2 = z3 ∧ wrap64 z3 = z3))
    (PO : Hid (Pfxs W v7 PP)) (PL : Hid (Pfxs W v8 PLL)) (PI : Hid (Pfxs W v9 PIL)) (BW : Hid (Below w.heap.size w W))
    (hK : ∀ (x49 x50 x51 x52 x53 x54 x55 x56 x57 x58 x59 x60 : Value) (W' : World), Below w.heap.size w W' → Q .normal ⟨#[u0, u1, u2, u3, u4, u5, .bool true, v7, v8, v9, u10, u11, u12, u13, u14, u15, u16, u17, u18, u19, u20, u21, u22, u23, u24, u25, u26, u27, u28, u29, u30, u31, u32, u33, u34, u35, u36, u37, u38, u39, u40, u41, u42, u43, u44, u45, u46, u47, u48, x49, x50, x51, x52, x53, x54, x55, x56, x57, x58, x59, x60], []⟩ W') :
    Code.wp Tryd.prog (mr 7) Q ⟨#[u0, u1, u2, u3, u4, u5, u6, v7, v8, v9, u10, u11, u12, u13, u14, u15, u16, u17, u18, u19, u20, u21, u22, u23, u24, u25, u26, u27, u28, u29, u30, u31, u32, u33, u34, u35, u36, u37, u38, u39, u40, u41, u42, u43, u44, u45, u46, u47, u48, u49, u50, u51, u52, u53, u54, u55, u56, u57, u58, u59, u60], []⟩ W := by
  conv => arg 2; whnf
  have T26 := Go.Lib.hid True.intro
  obtain ⟨yt, yu⟩ := HYS.out
  go_wp2_with (first
    | (go_at_call 13; have tok := T26.out; (with_reducible refine (CS1.out _ _ PL.out).mono ?_); rintro e v16 ⟨rfl, hb⟩; replace PO := Go.Lib.hid (PO.out.keep hb); replace PI := Go.Lib.hid (PI.out.keep hb); replace BW := Go.Lib.hid (BW.out.trans (hb.mono BW.out.size)); clear hb tok T26; have T27 := Go.Lib.hid True.intro)
    | (go_at_call 13; have tok := T27.out; (with_reducible refine (CS2.out _ _ PI.out).mono ?_); rintro e v17 ⟨rfl, hb⟩; replace PO := Go.Lib.hid (PO.out.keep hb); replace BW := Go.Lib.hid (BW.out.trans (hb.mono BW.out.size)); clear hb tok T27; have T28 := Go.Lib.hid True.intro)
    | (go_at_call 10; have tok := T28.out; (with_reducible refine (COO.out _ _ PO.out).mono ?_); rintro e v18 ⟨G18, g18, rfl, ho, hb⟩; have TO2 := Go.Lib.hid (Pts.of_own ho); replace BW := Go.Lib.hid (BW.out.trans (hb.mono BW.out.size)); clear hb tok T28 ho; have T29 := Go.Lib.hid True.intro)
    | (go_at_call 14; have tok := T29.out; (with_reducible refine (CZ.out _ _ TO2.out).mono ?_); rintro e v19 ⟨rfl, hb⟩; replace BW := Go.Lib.hid (BW.out.trans (hb.mono BW.out.size)); clear hb tok T29; have T30 := Go.Lib.hid True.intro)
    | (go_at_call 15; have tok := T30.out; (with_reducible refine (lives_any _).mono ?_); rintro e v20 ⟨rfl, hb⟩; replace BW := Go.Lib.hid (BW.out.trans (hb.mono BW.out.size)); clear hb tok T30; have T31 := Go.Lib.hid True.intro))
  exact BW.out
end Go.Proofs.YtgjdpmpbldofpaaDoor.Wlk

/- The walk of the law WalkMinus. -/
namespace Go.Proofs.YtgjdpmpbldofpaaDoor.Wlk
open Go.RowKit Mem Pfx PR Oct

theorem wrapM {n : Int} (h0 : 0 ≤ n) (h1 : n < 9223372036854775808) : wrap64 n = n := by
  rw [wrap64, Int.emod_eq_of_lt (by omega) (by omega)]
  omega
set_option maxRecDepth 100000 in
set_option maxHeartbeats 16000000 in
theorem minus_walk (p : Pf) (va : Value) (a : List Pf) (vb : Value) (b : List Pf) (w : World) (hp : p.ok) (hva : Pfxs w va a) (hvb : Pfxs w vb b) (hT : TabZ w) : Calls Tryd.prog 3 #[.agg #[.int .u32 p.a, .int .i64 p.n], va, vb] w (Tells (.bool true) w) := by
  have CF0 := Go.Lib.hid (fun (W : World) (h : Below w.heap.size w W) => show Calls Tryd.prog 5 #[va, .int .i64 20] W (GivesP (a.take 20) W) from few_any va a 20 W (hva.keep h) (by omega))
  have CG0 := Go.Lib.hid (fun (W : World) (h : Below w.heap.size w W) => show Calls Tryd.prog 5 #[vb, .int .i64 20] W (GivesP (b.take 20) W) from few_any vb b 20 W (hvb.keep h) (by omega))
  have HTZ := Go.Lib.hid (fun (W : World) (h : Below w.heap.size w W) => tabz_below hT h)
  have ha : Oks (a.take 20) := hva.2.take 20
  have hb : Oks (b.take 20) := hvb.2.take 20
  have hla : (a.take 20).length ≤ 20 := by rw [List.length_take]; omega
  have hlb : (b.take 20).length ≤ 20 := by rw [List.length_take]; omega
  generalize a.take 20 = a1 at CF0 ha hla
  generalize b.take 20 = b1 at CG0 hb hlb
  have ho : Oks [p] := fun q hq => by rw [List.mem_singleton] at hq; rw [hq]; exact hp
  obtain ⟨r1, r2, r3⟩ := minus_ref hp ha
  obtain ⟨s1, s2, s3⟩ := both_ref ha hb
  obtain ⟨i1, i2, i3⟩ := both_ref ho ha
  have hsum := parts_sum hp ha
  obtain ⟨mn1, mn2⟩ := minus_is hp ha
  have hml : (minusL p a1).length ≤ 2000 := by
    have := pfxT_len _ r1
    rw [r2] at this
    omega
  have hbl : (bothL (mergedL a1) (mergedL b1)).length ≤ 30000 := by
    have h1 := pfxT_len _ s1
    rw [s2] at h1
    have h2 : a1.length * b1.length ≤ 400 := Nat.mul_le_mul hla hlb
    omega
  have hil : (bothL (mergedL [p]) (mergedL a1)).length ≤ 30000 := by
    have h1 := pfxT_len _ i1
    rw [i2] at h1
    have h2 : ([p] : List Pf).length * a1.length ≤ 20 := by simp; omega
    omega
  obtain ⟨o1, o2, o3⟩ := of_is ho
  obtain ⟨oa1, oa2, oa3⟩ := of_is ha
  obtain ⟨ob1, ob2, ob3⟩ := of_is hb
  obtain ⟨rt1, rt2, rt3, rt4⟩ := restT_is (ofT a1) 0 oa1 (fun _ _ => Nat.zero_le _)
  have CFA := Go.Lib.hid (fun (W : World) (u : Value) (h : Pfxs W u a1) => show Calls Tryd.prog 5 #[u, .int .i64 20] W (GivesP a1 W) from by
    have := few_any u a1 20 W h (by omega)
    rw [List.take_of_length_le hla] at this
    exact this)
  have CFB := Go.Lib.hid (fun (W : World) (u : Value) (h : Pfxs W u b1) => show Calls Tryd.prog 5 #[u, .int .i64 20] W (GivesP b1 W) from by
    have := few_any u b1 20 W h (by omega)
    rw [List.take_of_length_le hlb] at this
    exact this)
  have CMN := Go.Lib.hid (fun (W : World) (u : Value) (h : Pfxs W u a1) (hw : Below w.heap.size w W) => minus_any p u a1 W hp h (by omega) (HTZ.out W hw))
  have COO := Go.Lib.hid (fun (W : World) (u : Value) (h : Pfxs W u [p]) => rof_any u [p] W h (by simp))
  have COA := Go.Lib.hid (fun (W : World) (u : Value) (h : Pfxs W u a1) => rof_any u a1 W h (by omega))
  have COB := Go.Lib.hid (fun (W : World) (u : Value) (h : Pfxs W u b1) => rof_any u b1 W h (by omega))
  have CRR := Go.Lib.hid (fun (W : World) (u : Value) (h : Pts W u (ofT a1)) => rrest_any u (ofT a1) W h oa1 (by omega))
  have CRB := Go.Lib.hid (fun (W : World) (u v : Value) (h : Pts W u (ofT [p])) (k : Pts W v (restT 0 (ofT a1))) => rboth_any u v (ofT [p]) (restT 0 (ofT a1)) W h k o1.ins rt1.ins (by simp only [List.length_cons, List.length_nil] at o3; omega) (by omega))
  have CRB2 := Go.Lib.hid (fun (W : World) (u v : Value) (h : Pts W u (ofT a1)) (k : Pts W v (ofT b1)) => rboth_any u v (ofT a1) (ofT b1) W h k oa1.ins ob1.ins (by omega) (by omega))
  have CX1 := Go.Lib.hid (fun (W : World) (u : Value) (h : Pts W u (bothT (ofT [p]) (restT 0 (ofT a1)))) => show Calls Tryd.prog 8 #[u] W (GivesP (minusL p a1) W) from by
    have := rpfx_any u _ W h r1 (by omega)
    rw [r2] at this
    exact this)
  have CX2 := Go.Lib.hid (fun (W : World) (u : Value) (h : Pts W u (bothT (ofT a1) (ofT b1))) => show Calls Tryd.prog 8 #[u] W (GivesP (bothL (mergedL a1) (mergedL b1)) W) from by
    have := rpfx_any u _ W h s1 (by have h2 : a1.length * b1.length ≤ 400 := Nat.mul_le_mul hla hlb; omega)
    rw [s2] at this
    exact this)
  have CWB := Go.Lib.hid (fun (W : World) (u v : Value) (h : Pfxs W u a1) (k : Pfxs W v b1) => both_any u v a1 b1 W h k (by omega) (by omega))
  have CWI := Go.Lib.hid (fun (W : World) (u v : Value) (h : Pfxs W u [p]) (k : Pfxs W v a1) => both_any u v [p] a1 W h k (by simp) (by omega))
  have CS1 := Go.Lib.hid (fun (W : World) (u : Value) (h : Pfxs W u (minusL p a1)) => span_any u (minusL p a1) W h (by omega))
  have CS2 := Go.Lib.hid (fun (W : World) (u : Value) (h : Pfxs W u (bothL (mergedL [p]) (mergedL a1))) => span_any u (bothL (mergedL [p]) (mergedL a1)) W h (by omega))
  have CZ := Go.Lib.hid (fun (W : World) (u : Value) (h : Pts W u (ofT [p])) => rsize_any u (ofT [p]) W h o1)
  have hsz := sizeT_le o1
  have HOA := Go.Lib.hid ha
  have HOB := Go.Lib.hid hb
  have HOL := Go.Lib.hid (oks_G mn1.good)
  obtain ⟨ma1, -, -⟩ := merged_is ha
  obtain ⟨mb1, -, -⟩ := merged_is hb
  obtain ⟨mo1, -, -⟩ := merged_is ho
  have HOC := Go.Lib.hid (oks_G (both_canon ma1 mb1).1.good)
  have HOI := Go.Lib.hid (oks_G (both_canon mo1 ma1).1.good)
  have HPO := Go.Lib.hid ho
  generalize bothT (ofT [p]) (restT 0 (ofT a1)) = T1 at CRB CX1
  generalize bothT (ofT a1) (ofT b1) = T2L at CRB2 CX2
  generalize spanL (topsL (sortP (minusL p a1))) = z1 at CS1 hsum
  generalize spanL (topsL (sortP (bothL (mergedL [p]) (mergedL a1)))) = z2 at CS2 hsum
  generalize bothL (mergedL a1) (mergedL b1) = PBL at CX2 CWB HOC
  generalize bothL (mergedL [p]) (mergedL a1) = PIL at CWI CS2 HOI
  generalize minusL p a1 = PLL at CMN CX1 CS1 HOL
  generalize restT 0 (ofT a1) = TRL at CRR CRB
  generalize ofT a1 = TAL at COA CRR CRB2
  generalize ofT b1 = TBL at COB CRB2
  generalize hz3 : sizeT (ofT [p]) = z3 at CZ hsum hsz
  obtain ⟨PP, hPP⟩ : ∃ PP, PP = [p] := ⟨_, rfl⟩
  rw [← hPP] at COO CWI CRB CZ HPO
  generalize ofT PP = TOL at COO CRB CZ
  have HPP := Go.Lib.hid hPP
  have CE1 := Go.Lib.hid (fun (W : World) (v u : Value) (hv : Pfxs W v PLL) (hu : Pfxs W u PLL) => same_self W v u PLL hv hu)
  have CE2 := Go.Lib.hid (fun (W : World) (v u : Value) (hv : Pfxs W v PBL) (hu : Pfxs W u PBL) => same_self W v u PBL hv hu)
  have yt : (z1 : Int) + (z2 : Int) = (z3 : Int) := by omega
  have y0 : (0 : Int) ≤ (z3 : Int) := by omega
  have y9 : (z3 : Int) < 9223372036854775808 := by omega
  have HYS := Go.Lib.hid (And.intro yt (wrapM y0 y9))
  clear y0 y9 yt
  have BW := Go.Lib.hid (below_new w (.cells #[.int .u32 (p.a : Int), .int .i64 p.n] 24))
  obtain ⟨c0, c1'⟩ := cells_two w (.int .u32 (p.a : Int)) (.int .i64 p.n) 24
  have T0 := Go.Lib.hid True.intro
  obtain ⟨pa, pn⟩ := p
  dsimp only at c0 c1' CMN BW HPP ⊢
  clear hva hvb hT ha hb hla hlb ho r1 r2 r3 s1 s2 s3 i1 i2 i3 hsum mn1 mn2 hml hbl hil o1 o2 o3 oa1 oa2 oa3 ob1 ob2 ob3 rt1 rt2 rt3 rt4 hsz ma1 mb1 mo1 hz3 hPP hp
  go_enter Tryd.func3, Tryd.ntmps3
  go_wp2_with fail
  generalize w.alloc (.cells #[.int .u32 (pa : Int), .int .i64 pn] 24) = W0 at c0 c1' BW ⊢
  go_wp2_with (first
    | (go_at_call 5; have tok := T0.out; (with_reducible refine (CF0.out _ BW.out).mono ?_); rintro e w1 ⟨A1, c1, rfl, ho, hb⟩; have P1 := Go.Lib.hid (Pfxs.of_own ho HOA.out); replace c0 := keeps hb c0; replace c1' := keeps hb c1'; replace BW := Go.Lib.hid (BW.out.trans (hb.mono BW.out.size)); clear hb tok T0 ho; have T1 := Go.Lib.hid True.intro)
    | (go_at_call 5; have tok := T1.out; (with_reducible refine (CG0.out _ BW.out).mono ?_); rintro e w2 ⟨A2, c2, rfl, ho, hb⟩; have P2 := Go.Lib.hid (Pfxs.of_own ho HOB.out); replace P1 := Go.Lib.hid (P1.out.keep hb); replace c0 := keeps hb c0; replace c1' := keeps hb c1'; replace BW := Go.Lib.hid (BW.out.trans (hb.mono BW.out.size)); clear hb tok T1 ho; have T2 := Go.Lib.hid True.intro))
  have hbn := below_new w2 (.cells #[.int .u32 (pa : Int), .int .i64 pn] 24)
  have PO := Go.Lib.hid (show Pfxs (w2.alloc (.cells #[.int .u32 (pa : Int), .int .i64 pn] 24)) (.slice (some ⟨w2.heap.size, 0, none⟩) 1 1) PP from by
    have h : Pfxs (w2.alloc (.cells #[.int .u32 (pa : Int), .int .i64 pn] 24)) (.slice (some ⟨w2.heap.size, 0, none⟩) 1 1) [⟨pa, pn⟩] := ⟨row_new2 _ _ _ _, by rw [← HPP.out]; exact HPO.out⟩
    rw [HPP.out]
    exact h)
  replace P1 := Go.Lib.hid (P1.out.keep hbn)
  replace P2 := Go.Lib.hid (P2.out.keep hbn)
  replace c0 := keeps hbn c0
  replace c1' := keeps hbn c1'
  replace BW := Go.Lib.hid (BW.out.trans (hbn.mono BW.out.size))
  clear hbn
  generalize hn2 : w2.heap.size = n2 at PO ⊢
  generalize w2.alloc (.cells #[.int .u32 (pa : Int), .int .i64 pn] 24) = W3 at PO P1 P2 c0 c1' BW ⊢
  clear hn2
  have hlt3 : w.heap.size < W3.heap.size := block_lt_of_cell c0
  have HK3 := Go.Lib.hid (fun (W : World) (h : Below W3.heap.size W3 W) => (⟨(h.cell (p := ⟨w.heap.size, 0, none⟩) hlt3).trans c0, (h.cell (p := ⟨w.heap.size, 1, none⟩) hlt3).trans c1'⟩ : W.cell? ⟨w.heap.size, 0, none⟩ = some (.int .u32 pa) ∧ W.cell? ⟨w.heap.size, 1, none⟩ = some (.int .i64 pn)))
  have D3 := Go.Lib.hid ((Below.refl W3.heap.size W3).drew)
  obtain ⟨m0, m1⟩ := HK3.out _ D3.out
  have P1D := Go.Lib.hid (P1.out.keep D3.out)
  have BWD := Go.Lib.hid (BW.out.drew)
  have T9 := Go.Lib.hid True.intro
  clear c0 c1'
  go_region_held3 (fun W => W.cell? ⟨w.heap.size, 0, none⟩ = some (.int .u32 pa) ∧ W.cell? ⟨w.heap.size, 1, none⟩ = some (.int .i64 pn))
    (first | exact ⟨by assumption, by assumption⟩ | exact HK3.out _ D3.out | exact HK3.out _ D4.out | exact HK3.out _ D5.out)
    (first
      | (go_at_call 5; have tok := T9.out; (with_reducible refine (CFA.out _ _ P1D.out).mono ?_); rintro e w4 ⟨A4, c4, rfl, ho, hb4⟩
         have F0 := Go.Lib.hid (Pfxs.of_own ho HOA.out)
         have D4 := Go.Lib.hid (D3.out.trans (hb4.mono D3.out.size))
         have BW4 := Go.Lib.hid (BWD.out.trans (hb4.mono BWD.out.size))
         clear ho hb4 tok T9)
      | (go_at_call 6; have tok := F0.out; (with_reducible refine (CMN.out _ _ F0.out BW4.out).mono ?_); rintro e w5 ⟨A5, c5, rfl, ho, hb5⟩
         have PL := Go.Lib.hid (Pfxs.of_own ho HOL.out)
         have D5 := Go.Lib.hid (D4.out.trans (hb5.mono D4.out.size))
         have BW5 := Go.Lib.hid (BW4.out.trans (hb5.mono BW4.out.size))
         clear ho hb5 tok))
  replace P1 := Go.Lib.hid (P1.out.keep D5.out)
  replace P2 := Go.Lib.hid (P2.out.keep D5.out)
  replace PO := Go.Lib.hid (PO.out.keep D5.out)
  replace BW := BW5
  have T10 := Go.Lib.hid True.intro
  clear F0 D4 D5 BW4 BW5 P1D BWD m0 m1 HK3
  go_upto_region 4 with fail
  refine wp_codeW (C := mr 4) (by kernel_rfl) ?_
  refine minus_r4 _ _ _ _ _ _ _ _ _ _ _ _ _ _ _ _ _ _ _ _ _ _ _ _ _ _ _ _ _ _ _ _ _ _ _ _ _ _ _ _ _ _ _ _ _ _ _ _ _ _ _ _ _ _ _ _ _ _ _ _ _ a1 b1 PP PLL PBL TOL TAL TBL TRL T1 T2L w _ _ CFA CFB COO COA COB CRR CRB CRB2 CX1 CX2 CE1 CE2 CWB HOA HOB HOL HOC P1 P2 PO PL BW ?_
  clear CFB COA COB CRR CRB CRB2 CX1 CX2 CE1 CE2 CWB HOB HOL HOC P1 P2 PO PL BW HTZ CMN HPP D3
  rintro x20 x21 x22 x23 x24 x25 x26 x27 x28 x29 x30 x31 x32 x33 x34 x35 x36 x37 x38 x39 x40 x41 x42 x43 W4 P1 PO PL BW
  replace P1 := Go.Lib.hid P1
  replace PO := Go.Lib.hid PO
  replace PL := Go.Lib.hid PL
  replace BW := Go.Lib.hid BW
  have T24 := Go.Lib.hid True.intro
  go_upto_region 7 with (first
    | (go_at_call 5; have tok := T24.out; (with_reducible refine (CFA.out _ _ P1.out).mono ?_); rintro e v14 ⟨G14, g14, rfl, ho, hb⟩; have F5 := Go.Lib.hid (Pfxs.of_own ho HOA.out); replace PO := Go.Lib.hid (PO.out.keep hb); replace PL := Go.Lib.hid (PL.out.keep hb); replace BW := Go.Lib.hid (BW.out.trans (hb.mono BW.out.size)); clear hb tok T24 ho; have T25 := Go.Lib.hid True.intro)
    | (go_at_call 12; have tok := T25.out; (with_reducible refine (CWI.out _ _ _ PO.out F5.out).mono ?_); rintro e v15 ⟨G15, g15, rfl, ho, hb⟩; have PI := Go.Lib.hid (Pfxs.of_own ho HOI.out); replace PO := Go.Lib.hid (PO.out.keep hb); replace PL := Go.Lib.hid (PL.out.keep hb); replace BW := Go.Lib.hid (BW.out.trans (hb.mono BW.out.size)); clear hb tok T25 ho; have T26 := Go.Lib.hid True.intro))
  refine wp_codeW (C := mr 7) (by kernel_rfl) ?_
  refine minus_r7 _ _ _ _ _ _ _ _ _ _ _ _ _ _ _ _ _ _ _ _ _ _ _ _ _ _ _ _ _ _ _ _ _ _ _ _ _ _ _ _ _ _ _ _ _ _ _ _ _ _ _ _ _ _ _ _ _ _ _ _ _ PP PLL PIL TOL z1 z2 z3 w _ _ COO CS1 CS2 CZ HYS PO PL PI BW ?_
  rintro x49 x50 x51 x52 x53 x54 x55 x56 x57 x58 x59 x60 W7 BW
  go_wp2_with fail
  go_ret
  exact ⟨rfl, BW⟩
end Go.Proofs.YtgjdpmpbldofpaaDoor.Wlk

/- What every law's frame shares: the reading of the arguments behind a call that only makes memory, the law's post, and a world for the witness. -/
namespace Go.Proofs.YtgjdpmpbldofpaaDoor.Frame
open Go.ChangeShapes Go.WideShapes Go.ChangeAt Go.RowKit Go.Joins

theorem own : ownKnob Tryd.prog.godebug = none := by kernel_rfl
theorem laidOut : laidOutB Tryd.prog = true := by kernel_rfl

/-- What is read of all arguments is read again behind a call that turned nothing old. -/
theorem trodAll_below {H : Type} {enc : TypeId × Value → H} {W W' : World} (hb : Below W.heap.size W W') : ∀ {ts : List TypeId} {vs : List Value} {ds : List (DataW H)} {ps : List MemPlace},
    (∀ t ∈ ts, Tryd.prog.readableRec t = true ∧ t < Tryd.prog.types.size) → DataW.TrodAll enc Tryd.prog W 0 (fun _ => true) true ts vs ds ps → (∀ x ∈ ps, x.block < W.heap.size) →
    DataW.TrodAll enc Tryd.prog W' 0 (fun b => decide (b < W.heap.size)) true ts vs ds ps
  | [], _, _, _, _, h, _ => by
    obtain ⟨rfl, rfl, rfl⟩ := trodAll_nil h
    exact trodAll_mk0
  | t :: ts, _, _, _, hr, h, hlt => by
    obtain ⟨v, vs1, d, ds1, p, q, rfl, rfl, rfl, h1, h2⟩ := trodAll_cons h
    have ht := hr t (List.mem_cons_self ..)
    exact trodAll_cons_mk (Below.trod laidOut ht.1 ht.2 h1 hb fun x hx => hlt x (List.mem_append.2 (.inl hx)))
      (trodAll_below hb (fun t ht => hr t (List.mem_cons_of_mem _ ht)) h2 fun x hx => hlt x (List.mem_append.2 (.inr hx)))

/-- THE POST OF A LAW: it answered true, and nothing old has turned. -/
theorem law_post {H : Type} {enc : TypeId × Value → H} {f : Func} {s : ChangeSpec} {W W' : World} {args : Array Value} {ds gs : List (DataW H)} {before : List MemPlace}
    (hv : s.vars = []) (hfn : s.fn H (ds ++ gs) = { results := [.lit (.bool true)], args := ds }) (hres : f.resultTypes = #[4])
    (hread : ∀ t ∈ f.params.toList, Tryd.prog.readableRec t = true ∧ t < Tryd.prog.types.size)
    (hW : DataW.Whole enc Tryd.prog f.params.toList s.vars false W args.toList ds gs before) (hb : Below W.heap.size W W') :
    s.post enc Tryd.prog f false true false false W args (.bool true) W' := by
  have hW0 := hW
  obtain ⟨p, q, hA, hV, rfl, _, _⟩ := hW
  rw [hv] at hV
  obtain ⟨rfl, rfl⟩ := trodVars_none hV
  refine ⟨ds, [], _, [], p, [], hW0, ?_, ?_, ?_, hb.frame _, fun h => by cases h⟩
  · rw [hfn, hres]
    exact trodAll_cons_mk (shut_bool Tryd.underlying4 _) trodAll_mk0
  · rw [hfn]
    exact trodAll_below hb hread hA fun x hx => hW0.lt x (List.mem_append.2 (.inl hx))
  · rw [hfn, hv]
    rfl

/-- The cells that a table's datum lays. -/
def cellsOf : DataW Unit → Array Value
  | .agg l => (l.map fun | .lit (.int k n) => Value.int k n | _ => undef).toArray
  | _ => #[]
/-- A block whose cells are turned into a table's. -/
def layTable (d : DataW Unit) : Obj → Obj
  | .cells _ t frozen => .cells (cellsOf d) t frozen
  | o => o
/-- A world for the witness: the settled one, each listed table holding what its initialiser lays. -/
noncomputable def laidWorld (os : Os) : World :=
  let w := World.holding Tryd.prog os ⟨#[], #[], []⟩
  { w with heap := w.heap.modify 0 (layTable Rows.laid_math_bits_deBruijn32tab) }

end Go.Proofs.YtgjdpmpbldofpaaDoor.Frame

/- What the rows that list the table of TrailingZeros32 give. -/
namespace Go.Proofs.YtgjdpmpbldofpaaDoor.Wlk
open Go.ChangeShapes Go.WideShapes Go.ChangeAt Go.RowKit Go.Joins

theorem cellsZ : Tryd.prog.cellsOf 73 = 32 := by kernel_rfl
theorem cells8z : Tryd.prog.cellsOf 5 = 1 := by kernel_rfl
theorem tzType : (Tryd.prog.globals[0]?).map (·.type) = some 73 := by kernel_rfl
theorem tzSame : Rows.laid_math_bits_deBruijn32tab (H := Unit) = Lib.tabData .u8 (Lib.deBruijn32tab.map (fun n : Nat => (n : Int))) := by kernel_rfl
theorem tabz_of {rest : List (String × DataW Unit)} {W : World} (h : laidMet Tryd.prog (("math/bits.deBruijn32tab", Rows.laid_math_bits_deBruijn32tab) :: rest) W) : TabZ W := by
  rw [tzSame] at h
  exact Lib.tabIs_of_head gTz tzType Tryd.underlying73 Tryd.underlying5 cells8z cellsZ h
end Go.Proofs.YtgjdpmpbldofpaaDoor.Wlk

/- WalkMinus: the fewest prefixes that have the addresses of one that none of any others has, and what two lists have in common, are what the document says. No condition beyond the card's own: the listed tables of the library hold what their initialisers lay. -/
namespace Go.Proofs.YtgjdpmpbldofpaaDoor.walkMinus
open Go.ChangeShapes Go.WideShapes Go.ChangeAt Go.RowKit Go.Joins

theorem readable : ∀ t ∈ Tryd.f3.params.toList, Tryd.prog.readableRec t = true ∧ t < Tryd.prog.types.size := by
  rw [Tryd.params3]
  intro t ht
  simp only [List.mem_cons, List.not_mem_nil, or_false] at ht
  rcases ht with rfl | rfl | rfl <;> exact ⟨by kernel_rfl, of_decide_eq_true (by kernel_rfl)⟩

set_option maxRecDepth 100000 in
theorem contract (H : Type) (enc : TypeId × Value → H) (W : World) (base : Nat) (args : Array Value) (ds gs : List (DataW H)) (before : List MemPlace)
    (hval : ∀ (j : Nat) t v, Tryd.f3.params[j]? = some t → args[j]? = some v → Value.okWide Tryd.prog W .any base t v)
    (hW : DataW.Whole enc Tryd.prog Tryd.f3.params.toList Rows.walkMinusSpec.vars false W args.toList ds gs before)
    (hT : Wlk.TabZ W) :
    Calls Tryd.prog 3 args W fun e W' => ∃ v, e = .returned v ∧ Rows.walkMinusSpec.post enc Tryd.prog Tryd.f3 false true false false W args v W' := by
  have hW' := hW
  obtain ⟨p, q, hA0, hV, rfl, hfz, hnd⟩ := hW
  have hA : DataW.TrodAll enc Tryd.prog W 0 (fun _ => true) true Tryd.f3.params.toList args.toList ds p := hA0
  rw [Tryd.params3] at hA hval
  obtain ⟨v0, vs0, d0, ds0, p0, q0, hargs, rfl, rfl, h0, r0⟩ := trodAll_cons hA
  obtain ⟨v1, vs1, d1, ds1, p1, q1, rfl, rfl, rfl, h1, r1⟩ := trodAll_cons r0
  obtain ⟨v2, vs2, d2, ds2, p2, q2, rfl, rfl, rfl, h2, r2⟩ := trodAll_cons r1
  obtain ⟨rfl, rfl, rfl⟩ := trodAll_nil r2
  obtain rfl : args = #[v0, v1, v2] := by cases args; simp_all
  obtain ⟨rfl, rfl⟩ := trodVars_none hV
  obtain ⟨p, hp, rfl⟩ := Tri.open_pf (hval 0 24 v0 rfl rfl) h0
  obtain ⟨a, ha⟩ := PR.open_pfxs (hval 1 25 v1 rfl rfl) h1 (fun x hx => hW'.lt x (by simp [hx]))
  obtain ⟨b, hb⟩ := PR.open_pfxs (hval 2 25 v2 rfl rfl) h2 (fun x hx => hW'.lt x (by simp [hx]))
  refine (Wlk.minus_walk p _ a _ b W hp ha hb hT).mono fun e W' ⟨he, hg⟩ => ?_
  subst he
  exact ⟨_, rfl, Frame.law_post rfl rfl (by kernel_rfl) readable hW' hg⟩

/-- The witness. -/
theorem laid_met (os : Os) : laidMet Tryd.prog Rows.walkMinusRow.laid ((Frame.laidWorld os).forCall (fun _ _ => 0) ⟨#[], #[.agg #[.int .u32 0, .int .i64 0], .slice none 0 0, .slice none 0 0], []⟩).memory :=
  laidMet_of_run' 8 (by kernel_rfl) (by kernel_rfl)
theorem reads (os : Os) {H : Type} (enc : TypeId × Value → H) : ∃ places, DataW.whole enc Tryd.prog ((Frame.laidWorld os).forCall (fun _ _ => 0) ⟨#[], #[.agg #[.int .u32 0, .int .i64 0], .slice none 0 0, .slice none 0 0], []⟩).memory Tryd.f3.params.toList Rows.walkMinusSpec.vars false #[Value.agg #[.int .u32 0, .int .i64 0], .slice none 0 0, .slice none 0 0].toList 8 = some ([.agg [.lit (.int .u32 0), .lit (.int .i64 0)], .nil, .nil], [], places) :=
  ⟨[], by kernel_rfl⟩

set_option maxRecDepth 100000 in
theorem lifted (os : Os) (started : os.Started) (H : Type) (enc : TypeId × Value → H) (F : Stop.Interp) :
    ReturnsInHanded {} Tryd.checked os 3 .any ((OpenSpec.ofChange Rows.walkMinusSpec).preRow enc Tryd.prog Tryd.f3 Rows.walkMinusRow.domain false Rows.walkMinusRow.laid) (((OpenSpec.ofChange Rows.walkMinusSpec).at F).post enc Tryd.prog Tryd.f3 false true false false) := by
  obtain ⟨places, hx⟩ := reads os enc
  refine returnsInHanded_of_row (C := Tryd.checked) (s := OpenSpec.ofChange Rows.walkMinusSpec) Frame.own started (by kernel_rfl) Tryd.func3
    (witness_row_at (enc := enc) (C := Tryd.checked) false (Frame.laidWorld os) #[.agg #[.int .u32 0, .int .i64 0], .slice none 0 0, .slice none 0 0] rfl (by kernel_rfl) (by kernel_rfl) (by kernel_rfl)
      (OpenSpec.preRow_of_cond 8 hx (by kernel_rfl) (fun k hk => by cases hk) (by kernel_rfl) (laid_met os))) ?_
  intro W base args ds gs before hval hW _ _ _ hL hS _
  exact contract H enc W base args ds gs before hval hW (Wlk.tabz_of hL)

theorem said : Rows.WalkMinusSaid :=
  OpenClaim.holds_of_cond 3 Tryd.f3 rfl rfl rfl rfl rfl rfl rfl ⟨rfl, rfl, rfl, rfl, rfl⟩ rfl rfl rfl rfl rfl (by kernel_rfl) Tryd.func3 (by kernel_rfl)
    (of_decide_eq_true (by kernel_rfl)) (by unfold Func.isWrapper; first | (rw [if_pos (by decide +kernel)]; kernel_rfl) | (rw [if_neg (by decide +kernel)]; exact ⟨rfl, rfl⟩))
    (fun os started H enc _ F => by rw [OpenClaim.pre_eq_preRow]; exact lifted os started H enc F)

/-- No parameter wants a stand-in; the program's own looks are off. -/
theorem plain (f : FuncId) (fn : Func) (hf : Tryd.pinned.checked.prog.funcNamed "confluence/confluencelaw15.WalkMinus" = some f) (hfn : Tryd.pinned.checked.prog.funcs[f]? = some fn) :
    Rows.walkMinusCard.stood.looks = Tryd.pinned.checked.prog.looks [] ∧ ∀ (j : Nat) t, fn.params[j]? = some t → Tryd.pinned.checked.prog.wantsStandIn t = false := by
  obtain rfl : f = 3 := Option.some.inj ((show Tryd.prog.funcNamed "confluence/confluencelaw15.WalkMinus" = some 3 by kernel_rfl).symm.trans hf) |>.symm
  obtain rfl : fn = Tryd.f3 := (Option.some.inj (Tryd.func3.symm.trans hfn)).symm
  refine ⟨by kernel_rfl, fun j t ht => ?_⟩
  rw [Tryd.params3] at ht
  have hm : t ∈ [24, 25, 25] := by simpa using Array.mem_of_getElem? ht
  simp only [List.mem_cons, List.not_mem_nil, or_false] at hm
  rcases hm with rfl | rfl | rfl
  · exact (show Tryd.prog.wantsStandIn 24 = false by kernel_rfl)
  · exact (show Tryd.prog.wantsStandIn 25 = false by kernel_rfl)
  · exact (show Tryd.prog.wantsStandIn 25 = false by kernel_rfl)

theorem card : Rows.WalkMinusCardSaid :=
  Claim7.holds_tied_plain_at .later [] _ _ _ _ said (fun _ h => by cases h) (by kernel_rfl) (fun _ h => by cases h) walkMinus_row_tie rfl ⟨rfl, rfl⟩ (by kernel_rfl) rfl plain (by kernel_rfl)
end Go.Proofs.YtgjdpmpbldofpaaDoor.walkMinus
