/- The reference's paths: a sequence, and sets behind. The reference's Same of two paths. The law's Few of a path: pieces cut to a number, each in memory of its own. -/
import Derived.Test.YtcdbeljmniaofaaGreatDoorSegRefA
import Derived.Test.YtcdbeljmniaofaaGreatDoorSetSame
import Derived.Lib.QuietBelow
import Derived.Deep.RegionHeld3

/- The reference's paths: a sequence, and sets behind. -/
namespace Go.Proofs.YtcdbeljmniaofaaGreatDoor.Seg
open Go.RowKit Mem Rise Nums Segm

/-- The numbers do not lie in the row. -/
def Off (v x : Value) : Prop := ∀ b off m c, x = .slice (some ⟨b, off, none⟩) m c → 0 < m → v.ownBlock ≠ some b
theorem off_later {W : World} {t : TypeId} {base size n : Nat} {v x : Value} {xs : List Value} {l : List Nat} {W0 : World} (h : W.ownsRow base t size v n xs) (hx : U32s W0 x l) (hb : W0.heap.size ≤ base) : Off v x := fun b off m c e hm e2 => by
  rw [e] at hx
  have h1 := u32_lt hx hm
  have h2 := (h.lt b e2).1
  omega
theorem u32_front {w : World} {A : Option Addr} {n c k : Nat} {l : List Nat} (h : U32s w (.slice A n c) l) (hk : k ≤ l.length) : U32s w (.slice A k c) (l.take k) := by
  have hn : n = l.length := by
    obtain ⟨_, _, e, _⟩ := h.open_
    injection e
  subst hn
  refine ⟨?_, fun y hy => h.2 y (List.mem_of_mem_take hy)⟩
  have := h.1.prefix_ hk
  rw [map_take] at this
  rwa [List.length_take, Nat.min_eq_left hk]
theorem u32_back {w : World} {b off n c k : Nat} {l : List Nat} (h : U32s w (.slice (some ⟨b, off, none⟩) n c) l) (hk : k < l.length) : U32s w (.slice (some ⟨b, off + k, none⟩) (n - k) (c - k)) (l.drop k) := by
  obtain ⟨_, _, e, hlc, _⟩ := h.open_
  injection e with _ e2 e3
  subst e2
  refine ⟨?_, fun y hy => h.2 y (List.mem_of_mem_drop hy)⟩
  have := h.1.cut_at (k := k) (by omega)
  rw [if_neg (by omega)] at this
  rw [List.length_drop, List.map_drop]
  exact this

/-- Where the first loop stands. -/
def Led (w w2 : World) (S : List Nat) (x v : Value) (p : List Piece) (wr : World) : Prop := Made 36 w v p wr ∧ Below w2.heap.size w2 wr ∧ Off v x ∧ U32s wr x S
/-- Where the second one stands. -/
def Cut (w : World) (T : List Piece) (v x : Value) (p : List Piece) (r : List Nat) (wr : World) : Prop := Made 36 w v p wr ∧ Off v x ∧ U32s wr x r ∧ p ++ chunkS r.length r = T

/-- A set of pieces more: what the append leaves. -/
theorem cut_step {w wr w1 : World} {p : List Piece} {r : List Nat} {L c3 c4 m c k : Nat} {A3 A4 A : Option Addr} {q : List Value} (hL : L = p.length) (hb : Below w.heap.size w wr) (hown : wr.ownsRow w.heap.size 36 2 (.slice A3 L c3) L (segCells p q)) (hq : Nums32 wr p q) (ha : Apart (.slice A3 L c3) q)
    (hoff : Off (.slice A3 L c3) (.slice A m c)) (hx : U32s wr (.slice A m c) r) (hk : k ≤ r.length) (hm : m = r.length)
    (hown4 : w1.ownsRow w.heap.size 36 2 (.slice A4 (L + 1) c4) (L + 1) (segCells p q ++ [.int .i64 1, .slice A k c]))
    (hg : (wr.alloc (.cells #[.int .i64 1, .slice A k c] 36)).grownBy w1 (Value.slice A3 L c3).ownBlock)
    (hat : (Value.slice A4 (L + 1) c4).ownBlock = (Value.slice A3 L c3).ownBlock ∨ (Value.slice A4 (L + 1) c4).ownBlock = some (wr.alloc (.cells #[.int .i64 1, .slice A k c] 36)).heap.size)
    (hb4 : Below w.heap.size (wr.alloc (.cells #[.int .i64 1, .slice A k c] 36)) w1) :
    Made 36 w (.slice A4 (L + 1) c4) (p ++ [(1, r.take k)]) w1 ∧ U32s w1 (.slice A m c) r ∧ Off (.slice A4 (L + 1) c4) (.slice A m c) := by
  subst hL hm
  have hf := u32_front hx hk
  have hoff2 : ∀ b off m' c', Value.slice A k c = .slice (some ⟨b, off, none⟩) m' c' → 0 < m' → (Value.slice A3 p.length c3).ownBlock ≠ some b := fun b off m' c' e hm' => by
    injection e with e1 e2 e3
    exact hoff b off r.length c (by rw [e1]) (by omega)
  have hal := (Below.refl wr.heap.size wr).alloc (Nat.le_refl _) (.cells #[.int .i64 1, .slice A k c] 36)
  refine ⟨⟨segs_more (p2 := [(1, r.take k)]) (q2 := [.slice A k c]) hq ha (Nums32.one hf) (Apart.one hoff2) hg hat (by simp) (by simp) hown4, (hb.alloc hb.size _).trans hb4⟩, u32_kept hal hg hx hoff, fun b off m' c' e hm' => ?_⟩
  rcases hat with h | h
  · rw [h]; exact hoff b off m' c' e hm'
  · rw [h]
    rw [e] at hx
    have h1 := u32_lt hx hm'
    intro e2
    injection e2 with e2
    simp at e2
    omega

theorem Led.put {w w2 wr w1 : World} {S : List Nat} {x v v1 : Value} {p p1 : List Piece} (h : Led w w2 S x v p wr) (h1 : OwnSegs 36 wr.heap.size w1 v1 p1) (hb : Below wr.heap.size wr w1) : Led w w2 S x v1 p1 w1 := by
  obtain ⟨hm, hb2, hoff, hx⟩ := h
  obtain ⟨q, hown, h2, h3⟩ := h1
  exact ⟨hm.gives ⟨q, hown, h2, h3⟩ hb, hb2.trans (hb.mono hb2.size), off_later hown hx (Nat.le_refl _), hx.keep hb⟩

set_option maxRecDepth 100000 in
set_option maxHeartbeats 4000000 in
theorem join_any (va vb : Value) (a b : List Nat) (w : World) (ha : U32s w va a) (hb : U32s w vb b) (hla : a.length ≤ 2000) (hlb : b.length ≤ 1000) :
    Calls Tryz.prog 10 #[va, vb] w (GivesSegs 36 (joinP a b) w) := by
  obtain ⟨i1, E1⟩ := elemSeg
  have HA0 := Go.Lib.hid ha
  obtain ⟨Aa, ca, rfl, hlca, hca, -, -⟩ := ha.open_
  have hSl : (setOf b).length ≤ 1000 := Nat.le_trans (length_setOf b) hlb
  have hSb : ∀ y ∈ setOf b, y < 4294967296 := fun y hy => hb.2 y ((mem_setOf b y).1 hy)
  have CS0 := fun (W : World) (h : Below w.heap.size w W) => refSet_own vb b W (hb.keep h) hlb
  have HT : Hid (joinP a b = putsS [] a ++ chunkS (setOf b).length (setOf b)) := rfl
  generalize setOf b = S at CS0 hSl hSb HT
  obtain ⟨M, hM⟩ : ∃ M, M = S.length := ⟨_, rfl⟩
  have hb0 : Below w.heap.size w (w.alloc (.cells #[] 36)) := (Below.refl _ w).alloc (Nat.le_refl _) _
  have CS := Go.Lib.hid (show Calls Tryz.prog 18 #[vb] (w.alloc (.cells #[] 36)) (fun e w' => ∃ A1 c1, e = .returned (.slice A1 M c1) ∧ Hid (Led w w' S (.slice A1 M c1) (.slice (some ⟨w.heap.size, 0, none⟩) 0 0) [] w')) from (CS0 _ hb0).mono fun e w' ⟨v1, he, ho, hb1⟩ => by
    rw [← hM] at ho
    obtain ⟨A1, c1, rfl⟩ := own_form ho
    have hown := World.ownsRow_lit (base := w.heap.size) (e := 36) (size := 2) w #[] 0 (Nat.le_refl _) (Nat.zero_le _) rfl
    refine ⟨A1, c1, he, ⟨⟨[], own_keep hown hb1, Nums32.nil _, fun x hx => by cases hx⟩, hb0.trans (hb1.mono hb0.size)⟩, Below.refl _ _, fun b off m c e hm e2 => ?_, U32s.of_own (base := (w.alloc (.cells #[] 36)).heap.size) (e := 29) (by rw [← hM]; exact ho) hSb⟩
    injection e with e1 e3 e4
    obtain ⟨g, cap, e5, hg1, hg2⟩ := ho.form (by omega)
    injection e5 with e5
    rw [e1] at e5
    injection e5 with e5
    injection e5 with e5
    have e6 : w.heap.size = b := by simpa [Value.ownBlock] using e2
    simp at hg1
    omega)
  have CP := Go.Lib.hid put_any
  have HM := Go.Lib.hid hM
  obtain ⟨Ab, cb, rfl, -, -, -, -⟩ := hb.open_
  clear ha hb CS0 hSb hM hb0
  have hMl : M ≤ 1000 := by have := HM.out; omega
  obtain ⟨T, hT⟩ : ∃ T, T = joinP a b := ⟨_, rfl⟩
  rw [← hT] at HT ⊢
  clear hT
  go_enter Tryz.func10, Tryz.ntmps10
  go_wp2_with (go_at_call 18; refine (CS.out).mono ?_; rintro e w2 ⟨AS, cS, rfl, hLed⟩)
  go_loopw [5, 7] (fun v5 v7 wr => ∃ (i : Nat) (A3 : Option Addr) (c3 : Nat), i ≤ a.length ∧ v7 = .int .i64 i ∧ v5 = .slice A3 (putsS [] (a.take i)).length c3 ∧ Hid (Led w w2 S (.slice AS M cS) v5 (putsS [] (a.take i)) wr)) (fun _ v7 _ => a.length - (intOf v7).toNat)
  case atStart => exact ⟨0, some ⟨w.heap.size, 0, none⟩, 0, Nat.zero_le _, rfl, rfl, hLed.out⟩
  case round =>
    clear hLed
    obtain ⟨i, A3, c3, hi, rfl, rfl, hL⟩ := hrel
    by_cases hlt : i < a.length
    · obtain ⟨b1, off1, y, rfl, hbw, hy, hy32, hcy⟩ := ((HA0.out).keep hL.out.1.2).at_ hlt
      have HY := Go.Lib.hid (take_snoc hy)
      have hpl := putsS_len [] (a.take i)
      have hj2 : (a.take i).length ≤ i := List.length_take_le i a
      have C := Go.Lib.hid (CP.out _ _ y wr hL.out.1.1.segs (by simp at hpl; omega) hy32)
      clear hy hpl hj2
      go_wp2_with (go_at_call 16; refine (C.out).mono ?_; rintro e w1 ⟨v1, rfl, hs1, hb1⟩; obtain ⟨A6, c6, rfl⟩ := hs1.form)
      go_roundw
      case rel => exact ⟨i + 1, A6, c6, by omega, by go_num, by rw [HY.out, putsS_snoc], by rw [HY.out, putsS_snoc]; exact hL.out.put hs1 hb1⟩
      case measure => simp [intOf]; omega
    · have HK : a.take i = a := List.take_of_length_le (by omega)
      rw [HK] at hL ⊢
      clear HK
      have hpl := putsS_len [] a
      generalize putsS [] a = P at hL HT hpl ⊢
      go_wp2
      go_loopw [5, 6] (fun v5 v6 wr => ∃ (A3 : Option Addr) (c3 : Nat) (A6 : Option Addr) (c6 : Nat) (p : List Piece) (r : List Nat), v5 = .slice A3 p.length c3 ∧ v6 = .slice A6 r.length c6 ∧ p.length + r.length ≤ 10000 ∧ Hid (Cut w T v5 v6 p r wr)) (fun _ v6 _ => match v6 with | .slice _ n _ => n | _ => 0)
      case atStart => exact ⟨A3, c3, AS, cS, P, S, rfl, by rw [HM.out], by simp at hpl; have := HM.out; omega, hL.out.1, hL.out.2.2.1, hL.out.2.2.2, HT.out.symm⟩
      case round =>
        clear hL hpl
        obtain ⟨A3, c3, A6, c6, p, r, rfl, rfl, hpr, hC⟩ := hrel
        obtain ⟨⟨⟨q, hown, hq, hap⟩, hbm⟩, hoff, hx, hT⟩ := hC.out
        have hTe := Go.Lib.hid hT
        obtain ⟨L, hL⟩ : ∃ L, L = p.length := ⟨_, rfl⟩
        obtain ⟨R, hR⟩ : ∃ R, R = r.length := ⟨_, rfl⟩
        rw [← hL] at hown hap hoff hpr ⊢
        rw [← hR] at hoff hx hpr ⊢
        have HL := Go.Lib.hid hL
        have HR := Go.Lib.hid hR
        have HQ := Go.Lib.hid hq
        have HAP := Go.Lib.hid hap
        have HOF := Go.Lib.hid hoff
        have HXX := Go.Lib.hid hx
        have HBM := Go.Lib.hid hbm
        by_cases h255 : 255 < R
        · obtain ⟨b6, off6, y6, rfl, hb6, -, -, -⟩ := hx.at_ (k := 0) (by omega)
          have hc6 : R ≤ c6 := by
            obtain ⟨_, _, e, h, _⟩ := hx.open_
            injection e with _ e2 e3
            rw [e2, e3]; exact h
          have hcc6 : c6 ≤ 9223372036854775807 := by
            obtain ⟨_, _, e, _, h, _⟩ := hx.open_
            injection e with _ e2 e3
            rw [e3]; exact h
          have HMO := Go.Lib.hid (chunk_more (f := r.length - 1) (l := r) (by omega))
          clear hL hR hq hap hoff hx hbm hT hC
          have hne : ¬ c6 = 255 := by omega
          go_wp2_with (at_builtin; refine wpList_append_row rfl (.tmp 26) (.tmp 30) rfl E1 w.heap.size _ L _ rfl (hown.alloc _) _ 1 [.int .i64 1, .slice (some ⟨b6, off6, none⟩) 255 c6] rfl (row_seg_at _ _ _ _ rfl) (ones_two _ _ _ _) (by unfold maxLen; omega) (by omega) (by have := HBM.out.size; simp; omega) (L + 1) rfl ?_; intro A4 c4 w1 hown4 hg4 hat4 hb4; have HST := Go.Lib.hid (cut_step HL.out HBM.out hown HQ.out HAP.out HOF.out HXX.out (by have := HR.out; omega) HR.out hown4 hg4 hat4 hb4))
          go_roundw
          case rel => exact ⟨A4, c4, some ⟨b6, off6 + 255, none⟩, c6 - 255, p ++ [(1, r.take 255)], r.drop 255, by rw [List.length_append, ← HL.out]; rfl, by rw [List.length_drop, ← HR.out], by have := HL.out; have := HR.out; simp; omega, by
            have h1 := HST.out.1
            have h2 := HST.out.2.1
            have h3 := HST.out.2.2
            refine ⟨h1, fun b off m c e hm => ?_, u32_back h2 (by have := HR.out; omega), ?_⟩
            · injection e with e1 e2 e3
              injection e1 with e1
              injection e1 with e1
              exact h3 b off6 R c6 (by rw [e1]) (by omega)
            · rw [← hTe.out, show r.length = r.length - 1 + 1 by have := HR.out; omega, HMO.out, List.append_assoc]
              rw [chunk_fuel (r.length - 1) (r.drop 255).length (r.drop 255) (by simp; omega) (Nat.le_refl _)]
              rfl⟩
          case measure => simp; omega
        · by_cases hr0 : R = 0
          · have hre : r = [] := List.eq_nil_of_length_eq_zero (by omega)
            have HTP := Go.Lib.hid (show T = p by rw [← hTe.out, hre]; simp [chunk_nil])
            have hzz : ¬ (0 : Int) < (R : Int) := by omega
            clear hL hR hq hap hoff hx hbm hT hre
            go_wp2
            go_ret
            exact ⟨_, rfl, by rw [HTP.out]; have := hC.out.1.1; rw [← HL.out] at this; exact this, HBM.out⟩
          · have hre : r ≠ [] := fun e => hr0 (by rw [hR, e]; rfl)
            have HTP := Go.Lib.hid (show T = p ++ [(1, r)] by rw [← hTe.out, chunk_last (Nat.le_refl _) hre (by omega)])
            have HTR := Go.Lib.hid (show r.take R = r by rw [hR]; exact List.take_length)
            have hzz : (0 : Int) < (R : Int) := by omega
            clear hL hR hq hap hoff hx hbm hT hre hC
            go_wp2_with (at_builtin; refine wpList_append_row rfl (.tmp 37) (.tmp 40) rfl E1 w.heap.size _ L _ rfl (hown.alloc _) _ 1 [.int .i64 1, .slice A6 R c6] rfl (row_seg_at _ _ _ _ rfl) (ones_two _ _ _ _) (by unfold maxLen; omega) (by omega) (by have := HBM.out.size; simp; omega) (L + 1) rfl ?_; intro A4 c4 w1 hown4 hg4 hat4 hb4; have HST := Go.Lib.hid (cut_step HL.out HBM.out hown HQ.out HAP.out HOF.out HXX.out (by have := HR.out; omega) HR.out hown4 hg4 hat4 hb4))
            go_ret
            exact ⟨_, rfl, by rw [HTP.out]; have := HST.out.1.1; rw [HTR.out] at this; exact this, HST.out.1.2⟩
end Go.Proofs.YtcdbeljmniaofaaGreatDoor.Seg


/- The reference's Same of two paths. -/
namespace Go.Proofs.YtcdbeljmniaofaaGreatDoor.Seg
open Go.RowKit Mem Rise Nums Segm

theorem same_in {W : World} {x y : Value} {a b : List Nat} (hx : U32s W x a) (hy : U32s W y b) :
    ∀ d os, Calls Tryz.prog 15 #[x, y] (Go.Sort.grow (redrawn W d) os) fun e w'' => e = .returned (.bool (decide (a = b))) ∧ ∃ p : Regrown, w'' = Go.Sort.grow (redrawn W p.d) p.os :=
  fun d os => Calls.regrown_of (refSame_any x y a b _ (hx.keep (below_regrown W d os)) (hy.keep (below_regrown W d os)))
theorem seq_snoc {p q : List Piece} {k : Nat} (h : p.take k = q.take k) (he : p[k]? = q[k]?) : p.take (k + 1) = q.take (k + 1) := by
  rw [List.take_add_one, List.take_add_one, h, he]
theorem far {w a b : World} (h : Below w.heap.size w a) (k : Below a.heap.size a b) : Below w.heap.size w b := Go.RowKit.Below.trans h (k.mono h.size)

set_option maxRecDepth 100000 in
set_option maxHeartbeats 2000000 in
theorem same_any (va vb : Value) (p q : List Piece) (w : World) (ha : Segs w va p) (hb : Segs w vb q) :
    Calls Tryz.prog 7 #[va, vb] w (Tells (.bool (decide (p = q))) w) := by
  have HA := Go.Lib.hid ha
  have HB := Go.Lib.hid hb
  obtain ⟨A, c, rfl, hlc, hc⟩ := ha.form
  obtain ⟨B, d, rfl, hld, hd⟩ := hb.form
  clear ha hb
  by_cases hl : p.length = q.length
  · have ht : ((p.length : Int) != (q.length : Int)) = false := by rw [hl]; simp
    have h1 : p.length ≤ q.length := by omega
    have h2 : q.length ≤ p.length := by omega
    clear hl
    go_enter Tryz.func7, Tryz.ntmps7
    go_wp2
    go_loopw [5] (fun i wr => ∃ k : Nat, k ≤ p.length ∧ i = .int .i64 k ∧ Hid (p.take k = q.take k) ∧ Hid (Below w.heap.size w wr)) (fun i _ => p.length - (intOf i).toNat)
    case atStart => exact ⟨0, Nat.zero_le _, rfl, by unfold Hid; simp, Below.refl _ _⟩
    case round =>
      obtain ⟨k, hk, rfl, hs, hbw⟩ := hrel
      by_cases hlt : k < p.length
      · obtain ⟨s, hs1⟩ : ∃ s, p[k]? = some s := ⟨_, List.getElem?_eq_getElem hlt⟩
        obtain ⟨t, ht1⟩ : ∃ t, q[k]? = some t := ⟨_, List.getElem?_eq_getElem (by omega)⟩
        obtain ⟨b0, off0, x, rfl, hb0, k1, k2, hx⟩ := ((HA.out).keep hbw.out).at_ hs1
        obtain ⟨b1, off1, y, rfl, hb1, m1, m2, hy⟩ := ((HB.out).keep hbw.out).at_ ht1
        have z0 : (0 : Int) ≤ (k : Int) := by omega
        have z1 : (k : Int) < (p.length : Int) := by omega
        have z2 : (k : Int) < (q.length : Int) := by omega
        have k1' := cell_regrown k1
        have k2' := cell_regrown k2
        have m1' := cell_regrown m1
        have m2' := cell_regrown m2
        have CS := same_in hx hy
        by_cases hk2 : s.1 = t.1
        · by_cases hab : s.2 = t.2
          · have HE := Go.Lib.hid (seq_snoc hs.out (show p[k]? = q[k]? by rw [hs1, ht1]; exact congrArg some (Prod.ext hk2 hab)))
            rw [decide_eq_true hab] at CS
            have hkk : ((s.1 : Int) != t.1) = false := by rw [hk2]; simp
            clear hs1 ht1 hk2 hab hx hy
            generalize s.1 = ks at k1 k1' hkk
            generalize t.1 = kt at m1 m1' hkk
            go_wp2_with fail
            refine wp_region_quiet_below (by kernel_rfl) (by kernel_rfl) ?_
            repeat (first | go_big_quiet_step (first | with_reducible exact CS _ _) | quiet_step (first | with_reducible exact CS _ _))
            refine wpQuiet_nil ?_
            intro _ hw'
            obtain ⟨⟨dq, osq⟩, hw''⟩ := hw'
            subst hw''
            go_wp2_with fail
            go_roundw
            case rel => exact ⟨k + 1, by omega, by go_num, HE, far hbw.out (below_regrown _ dq osq)⟩
            case measure => simp [intOf]; omega
          · have HN := Go.Lib.hid (show ¬ p = q by
              intro e
              rw [e, ht1] at hs1
              injection hs1 with hs1
              exact hab (congrArg Prod.snd hs1.symm))
            rw [decide_eq_false hab] at CS
            have hkk : ((s.1 : Int) != t.1) = false := by rw [hk2]; simp
            clear hs1 ht1 hk2 hab hx hy
            generalize s.1 = ks at k1 k1' hkk
            generalize t.1 = kt at m1 m1' hkk
            go_wp2_with fail
            refine wp_region_quiet_below (by kernel_rfl) (by kernel_rfl) ?_
            repeat (first | go_big_quiet_step (first | with_reducible exact CS _ _) | quiet_step (first | with_reducible exact CS _ _))
            refine wpQuiet_nil ?_
            intro _ hw'
            obtain ⟨⟨dq, osq⟩, hw''⟩ := hw'
            subst hw''
            go_wp2_with fail
            go_ret
            exact ⟨ret_bool (decide_eq_false HN.out).symm, far hbw.out (below_regrown _ dq osq)⟩
        · have HN := Go.Lib.hid (show ¬ p = q by
            intro e
            rw [e, ht1] at hs1
            injection hs1 with hs1
            exact hk2 (congrArg Prod.fst hs1.symm))
          have hkk : ((s.1 : Int) != t.1) = true := by simpa using hk2
          clear hs1 ht1 hk2 hx hy CS
          generalize s.1 = ks at k1 k1' hkk
          generalize t.1 = kt at m1 m1' hkk
          go_wp2_with fail
          refine wp_region_quiet_below (by kernel_rfl) (by kernel_rfl) ?_
          repeat (first | go_big_quiet_step (fail) | quiet_step (fail))
          refine wpQuiet_nil ?_
          intro _ hw'
          obtain ⟨⟨dq, osq⟩, hw''⟩ := hw'
          subst hw''
          go_wp2_with fail
          go_ret
          exact ⟨ret_bool (decide_eq_false HN.out).symm, far hbw.out (below_regrown _ dq osq)⟩
      · have HK := Go.Lib.hid (show p = q by
          have := hs.out
          rwa [List.take_of_length_le (by omega), List.take_of_length_le (by omega)] at this)
        go_wp2
        go_ret
        exact ⟨ret_bool (decide_eq_true HK.out).symm, hbw.out⟩
  · have ht : ((p.length : Int) != (q.length : Int)) = true := by simp; omega
    have HN := Go.Lib.hid (show ¬ p = q from fun e => hl (by rw [e]))
    clear hl
    go_enter Tryz.func7, Tryz.ntmps7
    go_wp2
    go_ret
    exact ⟨ret_bool (decide_eq_false HN.out).symm, Below.refl _ _⟩
end Go.Proofs.YtcdbeljmniaofaaGreatDoor.Seg


/- The law's Few of a path: pieces cut to a number, each in memory of its own. -/
namespace Go.Proofs.YtcdbeljmniaofaaGreatDoor.Seg
open Go.RowKit Mem Rise Nums Segm

/-- A piece cut. -/
def fewOne (s : Piece) : Piece := (s.1, s.2.take 300)
def fewS (p : List Piece) : List Piece := (p.take 12).map fewOne

theorem held_on {w a b : World} {p1 p2 : Addr} {v1 v2 : Value} (hp1 : p1.block < w.heap.size) (hp2 : p2.block < w.heap.size) (h : Below w.heap.size w a ∧ a.cell? p1 = some v1 ∧ a.cell? p2 = some v2) (hb : Below w.heap.size a b) : Below w.heap.size w b ∧ b.cell? p1 = some v1 ∧ b.cell? p2 = some v2 :=
  ⟨h.1.trans hb, by rw [hb.cell hp1]; exact h.2.1, by rw [hb.cell hp2]; exact h.2.2⟩

theorem few_step {w wr w1 w2 : World} {P : List Piece} {q : List Value} {k : Int} {l : List Nat} {L m c1 c3 c4 : Nat} {A1 A3 A4 : Option Addr} (hL : L = P.length) (hm : m = l.length) (hl : ∀ y ∈ l, y < 4294967296)
    (hown : wr.ownsRow w.heap.size 36 2 (.slice A3 L c3) L (segCells P q)) (hq : Nums32 wr P q) (ha : Apart (.slice A3 L c3) q) (hb : Below w.heap.size w wr) (hb1 : Below wr.heap.size wr w1)
    (ho1 : w1.ownsRow wr.heap.size 29 1 (.slice A1 m c1) m (l.map fun n : Nat => Value.int .u32 n))
    (hown4 : w2.ownsRow w.heap.size 36 2 (.slice A4 (L + 1) c4) (L + 1) (segCells P q ++ [.int .i64 k, .slice A1 m c1]))
    (hg : (w1.alloc (.cells #[.int .i64 k, .slice A1 m c1] 36)).grownBy w2 (Value.slice A3 L c3).ownBlock)
    (hat : (Value.slice A4 (L + 1) c4).ownBlock = (Value.slice A3 L c3).ownBlock ∨ (Value.slice A4 (L + 1) c4).ownBlock = some (w1.alloc (.cells #[.int .i64 k, .slice A1 m c1] 36)).heap.size)
    (hb4 : Below w.heap.size (w1.alloc (.cells #[.int .i64 k, .slice A1 m c1] 36)) w2) :
    Made 36 w (.slice A4 (L + 1) c4) (P ++ [(k, l)]) w2 := by
  subst hL hm
  have hw1 : Below w.heap.size w w1 := hb.trans (hb1.mono hb.size)
  have hu : U32s w1 (.slice A1 l.length c1) l := U32s.of_own ho1 hl
  refine ⟨segs_more (p2 := [(k, l)]) (q2 := [.slice A1 l.length c1]) (hq.keep hb1) ha (Nums32.one hu) (Apart.one fun b off m c e hm e2 => ?_) hg hat (by simp) (by simp) hown4, (hw1.alloc hw1.size _).trans hb4⟩
  have h5 := (hown.lt b e2).2
  rw [e] at ho1
  injection e with e1 e3 e4
  obtain ⟨g, cap, e5, hg1, hg2⟩ := ho1.form (by omega)
  injection e5 with e5
  injection e5 with e5
  injection e5 with e5
  omega

set_option maxRecDepth 100000 in
set_option maxHeartbeats 4000000 in
theorem fewSegs_any (v : Value) (p : List Piece) (w : World) (hv : Segs w v p) :
    Calls Tryz.prog 4 #[v] w (GivesSegs 36 (fewS p) w) := by
  obtain ⟨i1, E1⟩ := elemSeg
  have HV := Go.Lib.hid hv
  obtain ⟨A, c, rfl, hlc, hc⟩ := hv.form
  have CF0 := Go.Lib.hid (show ∀ (x : Value) (l : List Nat) (W : World), U32s W x l → Calls Tryz.prog 5 #[x, .int .i64 300] W (Gives32 29 (l.take 300) W) from fun x l W h => few_any x l 300 W h (by omega))
  have hb0 : Below w.heap.size w (w.alloc (.cells #[] 36)) := (Below.refl _ w).alloc (Nat.le_refl _) _
  have h0 : Made 36 w (.slice (some ⟨w.heap.size, 0, none⟩) 0 0) [] (w.alloc (.cells #[] 36)) :=
    ⟨⟨[], World.ownsRow_lit (base := w.heap.size) (e := 36) (size := 2) w #[] 0 (Nat.le_refl _) (Nat.zero_le _) rfl, Nums32.nil _, fun x hx => by cases hx⟩, hb0⟩
  have H0 := Go.Lib.hid h0
  obtain ⟨T, hT⟩ : ∃ T, T = fewS p := ⟨_, rfl⟩
  rw [← hT]
  have HT := Go.Lib.hid hT
  clear hv h0 hb0 hT
  go_enter Tryz.func4, Tryz.ntmps4
  go_wp2
  go_loopw [3, 4] (fun v3 v4 wr => ∃ (i : Nat) (A3 : Option Addr) (c3 : Nat), i ≤ p.length ∧ i ≤ 12 ∧ v4 = .int .i64 i ∧ v3 = .slice A3 i c3 ∧ Hid (Made 36 w v3 ((p.take i).map fewOne) wr)) (fun _ v4 _ => p.length - (intOf v4).toNat)
  case atStart => exact ⟨0, some ⟨w.heap.size, 0, none⟩, 0, Nat.zero_le _, Nat.zero_le _, rfl, rfl, H0.out⟩
  case round =>
    obtain ⟨i, A3, c3, hi, hi12, rfl, rfl, hM⟩ := hrel
    by_cases hlt : i < p.length
    · by_cases h12 : i < 12
      · obtain ⟨s, hs⟩ : ∃ s, p[i]? = some s := ⟨_, List.getElem?_eq_getElem hlt⟩
        obtain ⟨b, off, x, rfl, hbw, k1, k2, hx⟩ := (HV.out).at_ hs
        obtain ⟨⟨q, hown, hq, hap⟩, hbm⟩ := hM.out
        have j1 := (hbm.cell (p := ⟨b, off + i * 2, none⟩) hbw).trans k1
        have j2 := (hbm.cell (p := ⟨b, off + i * 2 + 1, none⟩) hbw).trans k2
        have HLP := Go.Lib.hid (show i = ((p.take i).map fewOne).length by rw [List.length_map, List.length_take]; omega)
        rw [← HLP.out] at hown
        have HN := Go.Lib.hid (show (p.take (i + 1)).map fewOne = (p.take i).map fewOne ++ [(s.1, s.2.take 300)] by rw [List.take_add_one, hs]; simp [fewOne])
        have CF := Go.Lib.hid (CF0.out x s.2 wr.drew ((hx.keep hbm).keep ((Below.refl _ _).drew)))
        have HL32 := Go.Lib.hid (fun y (hy : y ∈ s.2.take 300) => hx.2 y (List.mem_of_mem_take hy))
        obtain ⟨l, hl⟩ : ∃ l, l = s.2.take 300 := ⟨_, rfl⟩
        rw [← hl] at CF HN HL32
        obtain ⟨m, hm⟩ : ∃ m, m = l.length := ⟨_, rfl⟩
        have HMM := Go.Lib.hid hm
        have HQ := Go.Lib.hid hq
        have HAP := Go.Lib.hid hap
        have HBM := Go.Lib.hid hbm
        have HOWN := Go.Lib.hid hown
        generalize s.1 = ks at j1 HN
        clear hs hx hq hap hl hm k1 k2 hM hown
        have z0 : (0 : Int) ≤ (i : Int) := by omega
        have z1 : (i : Int) < (p.length : Int) := by omega
        have z2 : (i : Int) < 12 := by omega
        go_wp2
        go_region_held3 (fun w' => Below w.heap.size w w' ∧ w'.cell? ⟨b, off + i * 2, none⟩ = some (.int .i64 ks) ∧ w'.cell? ⟨b, off + i * 2 + 1, none⟩ = some x)
          (first | assumption | exact ⟨hbm.drew, j1, j2⟩ | exact held_on hbw hbw (by assumption) (Below.mono (by assumption) hbm.size) | exact held_on hbw hbw (by assumption) (by assumption) | exact held_on hbw hbw (by assumption) (Below.alloc (Below.refl _ _) (Below.size (And.left (by assumption))) _) | (trace_state; fail))
          (first
            | (go_at_call 5
               refine (CF.out).mono ?_
               rintro e w1 ⟨v1, rfl, ho1, hb1⟩
               rw [← HMM.out] at ho1
               obtain ⟨A1, c1, rfl⟩ := own_form ho1
               have hb1r : Below wr.heap.size wr w1 := Go.RowKit.Below.trans ((Below.refl _ _).drew) hb1
               have hown1 := own_keep HOWN.out hb1r)
            | (refine step_append_row (by rfl) (.tmp 16) (.tmp 29) (by rfl) E1 w.heap.size _ i _ (by rfl) (hown1.alloc _) _ 1 [.int .i64 ks, .slice A1 m c1] (by rfl) ?_ (ones_two _ _ _ _) ?_ ?_ ?_ (i + 1) rfl ?_
               · exact row_seg_at _ _ _ _ rfl
               · unfold maxLen; omega
               · omega
               · have := HBM.out.size; have := hb1r.size; simp; omega
               intro A4 c4 w2 hown4 hg4 hat4 hb4
               have HST := Go.Lib.hid (few_step HLP.out HMM.out HL32.out HOWN.out HQ.out HAP.out HBM.out hb1r ho1 hown4 hg4 hat4 hb4)))
        all_goals go_wp2
        all_goals go_roundw
        case rel => exact ⟨i + 1, A4, c4, by omega, by omega, by go_num, rfl, by rw [HN.out]; exact HST.out⟩
        case measure => simp [intOf]; omega
      · have HE := Go.Lib.hid (show T = (p.take i).map fewOne by rw [HT.out]; unfold fewS; rw [show i = 12 by omega])
        go_wp2
        go_ret
        exact ⟨_, rfl, by rw [HE.out]; exact hM.out.1, hM.out.2⟩
    · have HE := Go.Lib.hid (show T = (p.take i).map fewOne by rw [HT.out]; unfold fewS; rw [List.take_of_length_le (by omega), List.take_of_length_le (by omega)])
      go_wp2
      go_ret
      exact ⟨_, rfl, by rw [HE.out]; exact hM.out.1, hM.out.2⟩
end Go.Proofs.YtcdbeljmniaofaaGreatDoor.Seg
