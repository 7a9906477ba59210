/- The program's fill: a path, communities; all types together. The program's read: an attribute off its item, unless it is to be skipped, or what is wrong of it. Plain mathematics: what bytes tell, attribute by attribute. It speaks of no function of the program. The reference's Path: the pieces of a path's bytes. -/
import Derived.Test.YtlhdjdnflpilbaaGreatDoorG42
import Derived.Test.YtlhdjdnflpilbaaGreatDoorG40
import Derived.Test.YtlhdjdnflpilbaaGreatDoorG03
import Derived.Test.YtlhdjdnflpilbaaGreatDoorG11
namespace Go.Proofs.YtlhdjdnflpilbaaGreatDoor.Att
open Go.RowKit Mem Segm Oct Seg
theorem pathOf_len : ∀ (n : Nat) (b : List Nat) (p : List Piece), Small b → b.length ≤ n → pathOf n b = some p → 4 * lens p + 2 * p.length = b.length ∧ FitS 255 p
  | 0, b, p, _, hn, h => by
    obtain rfl : b = [] := List.eq_nil_of_length_eq_zero (by omega)
    have h0 : (some [] : Option (List Piece)) = some p := h
    injection h0 with h0
    subst h0
    exact ⟨rfl, fun s hs => by cases hs⟩
  | n + 1, [], p, _, _, h => by
    have h0 : (some [] : Option (List Piece)) = some p := h
    injection h0 with h0
    subst h0
    exact ⟨rfl, fun s hs => by cases hs⟩
  | n + 1, [_], p, _, _, h => by
    have h0 : (none : Option (List Piece)) = some p := h
    cases h0
  | n + 1, k :: c :: r, p, hs, hn, h => by
    unfold pathOf at h
    dsimp only at h
    simp only [List.length_cons] at hn ⊢
    split at h
    · rename_i hc
      cases hq : pathOf n (r.drop (4 * c)) with
      | none => rw [hq] at h; cases h
      | some q =>
        rw [hq] at h
        have h0 : (((k : Nat) : Int), quadsN r c) :: q = p := by simpa using h
        subst h0
        obtain ⟨h1, h2⟩ := pathOf_len n (r.drop (4 * c)) q (fun x hx => hs x (by simp [List.mem_of_mem_drop hx])) (by rw [List.length_drop]; omega) hq
        rw [List.length_drop] at h1
        have e : lens ((((k : Nat) : Int), quadsN r c) :: q) = c + lens q := by simp [lens, quadsN_len]
        rw [e, List.length_cons]
        refine ⟨by omega, fun s hsm => ?_⟩
        rcases List.mem_cons.1 hsm with rfl | h3
        · show (quadsN r c).length ≤ 255
          rw [quadsN_len]
          have := hs c (by simp)
          omega
        · exact h2 s h3
    · cases h
theorem pathIs_len {b : List Nat} {p : List Piece} (hs : Small b) (h : pathIs b = some p) : 4 * lens p + 2 * p.length = b.length ∧ FitS 255 p := pathOf_len _ b p hs (Nat.le_refl _) h
theorem bulk_is (p : List Piece) : bulk p = lens p + p.length := by
  induction p with
  | nil => rfl
  | cons s p ih =>
    have e1 : bulk (s :: p) = s.2.length + 1 + bulk p := by simp [bulk]
    have e2 : lens (s :: p) = s.2.length + lens p := by simp [lens]
    rw [e1, e2, ih, List.length_cons]; omega
theorem u8_only {W W' : World} {v : Value} {l : List Nat} {B : Nat} (h : U8s W v l) (h9 : ∀ i n, W.cell? ⟨B, i, none⟩ ≠ some (.int .u8 n)) (ho : Only (fun q => q = B) W W') : U8s W' v l := by
  obtain ⟨⟨hl, A, c, rfl, hm, hc, hr⟩, hsm⟩ := h
  refine ⟨⟨hl, A, c, rfl, hm, hc, fun h0 => ?_⟩, hsm⟩
  obtain ⟨b, off, rfl, hlt, hcell⟩ := hr h0
  obtain ⟨x, hx⟩ : ∃ x, l[0]? = some x := ⟨_, List.getElem?_eq_getElem h0⟩
  have hne : b ≠ B := fun e => by
    subst e
    have h5 := hcell 0 (.int .u8 x) (by unfold cells8; rw [List.getElem?_map, hx]; rfl)
    exact h9 _ _ h5
  exact ⟨b, off, rfl, Nat.lt_of_lt_of_le hlt ho.size, fun i y hy => by rw [← hcell i y hy]; exact World.cell?_of_block (ho.block b hlt hne)⟩
theorem rsize {W : World} {base n b : Nat} {l : List Nat} {bad : Bool} {F : Nat → Prop} (h : R W base n (.pointer (some ⟨b, 0, none⟩)) l bad F) : n ≤ W.heap.size := by
  rcases h with ⟨h, _⟩ | ⟨_, _, _, _, _, h4, _⟩
  · cases h
  · exact h4
set_option maxRecDepth 100000 in
set_option maxHeartbeats 4000000 in
theorem fill8 (f : Int) (A : Option Addr) (c : Nat) (v : List Nat) (w : World) (B N : Nat) (a : At) (hA : BoxA w B N a) (hv : U8s w (.slice A v.length c) v) (hl : v.length % 4 = 0 ∧ v.length ≤ 1020) :
    Calls Tryz.prog 108 #[.agg #[.int .i64 f, .int .i64 8, .slice A v.length c], .pointer (some ⟨B, 0, none⟩)] w (FillF B N a 8 v w) := by
  obtain ⟨hok, hlt, Ap, np, cp, Ac, nc, cc, h9, hp, hc, hn⟩ := hA
  have hb1 : Below w.heap.size w (w.alloc (.cells #[.int .i64 f, .int .i64 8, .slice A v.length c] 90)) := (Below.refl _ _).alloc (Nat.le_refl _) _
  have CN := Go.Lib.hid (new_any _ v _ (hv.keep hb1) (by omega))
  have HS := Go.Lib.hid hv.2
  have HOK := Go.Lib.hid hok
  have HP := Go.Lib.hid hp
  have HC := Go.Lib.hid (And.intro hc hn)
  have H9 := Go.Lib.hid h9
  have q3 := Box3.new w 90 (.int .i64 f) (.int .i64 8) (.slice A v.length c)
  obtain ⟨d0, d1, d2⟩ := q3.cells
  obtain ⟨hh, ho, hpt, hh3, hh4, hh5, hh6, hh7, hh8⟩ := a
  dsimp only at hp h9 hc hok HP HC H9 HOK
  clear hv hb1 hp hc hn h9 hok q3
  obtain ⟨hl4, hl⟩ := hl
  have CT := Go.Lib.hid (fun (b N : Nat) (W : World) (h : R W (w.heap.size + 1) N (.pointer (some ⟨b, 0, none⟩)) v false (fun q => q = b)) => show Calls Tryz.prog 118 #[.pointer (some ⟨b, 0, none⟩), .int .i64 (v.length / 4 : Nat)] W (fun e w' => ∃ A c, e = .returned (.slice A (v.length / 4) c) ∧ U32s w' (.slice A (v.length / 4) c) (quads v) ∧ NewAt W.heap.size (.slice A (v.length / 4) c) ∧ R w' (w.heap.size + 1) N (.pointer (some ⟨b, 0, none⟩)) (Rd.mk (v.drop (4 * (v.length / 4))) false).l false (fun q => q = b) ∧ Only (fun q => q = b) W w') from by
    have h1 := take_n _ _ _ v false _ (v.length / 4) W HS.out h (rsize h) (by omega)
    unfold TakeN at h1
    obtain ⟨e1, e2⟩ := took_good (l := v) (v.length / 4) (by omega)
    rw [e1, e2] at h1
    exact h1)
  have CL := Go.Lib.hid (fun (b N : Nat) (W : World) (h : R W (w.heap.size + 1) N (.pointer (some ⟨b, 0, none⟩)) v false (fun q => q = b)) => left_any _ _ _ v false _ W h)
  have wq : wrap64 (((v.length : Nat) : Int) / 4) = ((v.length / 4 : Nat) : Int) := by unfold wrap64; omega
  have hok2 := HOK.out
  clear hl4 hl
  go_enter Tryz.func108, Tryz.ntmps108
  go_wp2_with (first
    | (go_at_call 40; first | (refine (CN.out).mono ?_; rintro e x ⟨b, rfl, hR, hb⟩; have S1 := Go.Lib.hid (fi_new (x := ⟨v, false⟩) H9.out n9 hR hb); clear hR hb d0 d1 d2; obtain ⟨d0, d1, d2⟩ := S1.out.b3.cells; obtain ⟨c0, c1, c2, c3, c4, c5, c6, c7, c8⟩ := S1.out.b9.cells; have fB := S1.out.b9.free) | (trace "FELL N"; trace_state; fail_if_success skip))
    | (have h := S1.out; go_at_call 47; first | (refine (CL.out _ _ _ h.rd).mono ?_; rintro e x ⟨rfl, hb⟩; have S2 := Go.Lib.hid (h.below hb); clear hb h S1; clear d0 d1 d2 c0 c1 c2 c3 c4 c5 c6 c7 c8 fB; obtain ⟨d0, d1, d2⟩ := S2.out.b3.cells; obtain ⟨c0, c1, c2, c3, c4, c5, c6, c7, c8⟩ := S2.out.b9.cells; have fB := S2.out.b9.free) | (trace "FELL L"; trace_state; fail_if_success skip))
    | (have h := S2.out; go_at_call 118; first | (refine (CT.out _ _ _ h.rd).mono ?_; rintro e x9 ⟨At, ct, rfl, hU, hN, hR, ho⟩; have S3 := Go.Lib.hid (h.read (y := ⟨v.drop (4 * (v.length / 4)), false⟩) hR ho); have HU := Go.Lib.hid (And.intro hU (hN.lower (Nat.le_trans hlt.2 h.on.size))); clear hR ho hU hN h S2; clear d0 d1 d2 c0 c1 c2 c3 c4 c5 c6 c7 c8 fB; obtain ⟨d0, d1, d2⟩ := S3.out.b3.cells; obtain ⟨c0, c1, c2, c3, c4, c5, c6, c7, c8⟩ := S3.out.b9.cells; have fB := S3.out.b9.free; have S4 := Go.Lib.hid (S3.out.set8 (.slice At (v.length / 4) ct) (no8_s _ _ _))) | (trace "FELL T"; trace_state; fail_if_success skip)))
  go_ret
  refine ⟨rfl, S4.out.on, fun _ => ?_⟩
  exact ⟨HOK.out, ⟨hlt.1, Nat.le_trans hlt.2 S4.out.on.size⟩, Ap, np, cp, At, _, ct, S4.out.b9, segs_on HP.out S4.out.on (fun k e => by subst e; exact hlt.1), u32_off HU.out.1 HU.out.2 (off_set _ hlt.1) (by simp), HU.out.2⟩
set_option maxRecDepth 100000 in
set_option maxHeartbeats 4000000 in
theorem fill2 (f : Int) (A : Option Addr) (c : Nat) (v : List Nat) (w : World) (B N : Nat) (a : At) (hA : BoxA w B N a) (hv : U8s w (.slice A v.length c) v) (hl : v.length ≤ 65535) :
    Calls Tryz.prog 108 #[.agg #[.int .i64 f, .int .i64 2, .slice A v.length c], .pointer (some ⟨B, 0, none⟩)] w (FillF B N a 2 v w) := by
  obtain ⟨hok, hlt, Ap, np, cp, Ac, nc, cc, h9, hp, hc, hn⟩ := hA
  have hb1 : Below w.heap.size w (w.alloc (.cells #[.int .i64 f, .int .i64 2, .slice A v.length c] 90)) := (Below.refl _ _).alloc (Nat.le_refl _) _
  have CN := Go.Lib.hid (new_any _ v _ (hv.keep hb1) (by omega))
  have HS := Go.Lib.hid hv.2
  have HOK := Go.Lib.hid hok
  have HP := Go.Lib.hid hp
  have HC := Go.Lib.hid (And.intro hc hn)
  have H9 := Go.Lib.hid h9
  have q3 := Box3.new w 90 (.int .i64 f) (.int .i64 2) (.slice A v.length c)
  obtain ⟨d0, d1, d2⟩ := q3.cells
  obtain ⟨hh, ho, hpt, hh3, hh4, hh5, hh6, hh7, hh8⟩ := a
  dsimp only at hp h9 hc hok HP HC H9 HOK
  have HUV := Go.Lib.hid hv
  clear hv hb1 hp hc hn h9 hok q3
  have HV := Go.Lib.hid (fun (W : World) (h : Only (fun q => q = B) w W) (h9 : ∀ i n, w.cell? ⟨B, i, none⟩ ≠ some (.int .u8 n)) => u8_only HUV.out h9 h)
  have CP := Go.Lib.hid (fun (W : World) (h : U8s W (.slice A v.length c) v) => path_any _ v W h (by omega))
  cases hp2 : pathIs v with
  | none =>
    have HE := Go.Lib.hid (show fillN 2 v = 11 by simp [fillN, hp2])
    unfold PathF at CP
    rw [hp2] at CP
    clear hp2 hl
    unfold FillF
    rw [HE.out]
    go_enter Tryz.func108, Tryz.ntmps108
    go_wp2_with (first
      | (go_at_call 40; first | (refine (CN.out).mono ?_; rintro e x ⟨b, rfl, hR, hb⟩; have S1 := Go.Lib.hid (fi_new (x := ⟨v, false⟩) H9.out n9 hR hb); clear hR hb d0 d1 d2; obtain ⟨d0, d1, d2⟩ := S1.out.b3.cells; obtain ⟨c0, c1, c2, c3, c4, c5, c6, c7, c8⟩ := S1.out.b9.cells; have fB := S1.out.b9.free) | (trace "FELL N"; trace_state; fail_if_success skip))
      | (have h := S1.out; go_at_call 116; first | (refine (CP.out _ (HV.out _ h.on (H9.out.no8 n9))).mono ?_; intro e x hF; have HF := Go.Lib.hid (And.intro (h.below hF.1) hF.2); clear hF h; have S2 := Go.Lib.hid HF.out.1; obtain rfl := HF.out.2; clear HF; clear S1; clear d0 d1 d2 c0 c1 c2 c3 c4 c5 c6 c7 c8 fB; obtain ⟨d0, d1, d2⟩ := S2.out.b3.cells; obtain ⟨c0, c1, c2, c3, c4, c5, c6, c7, c8⟩ := S2.out.b9.cells; have fB := S2.out.b9.free) | (trace "FELL P"; trace_state; fail_if_success skip)))
    go_ret
    refine ⟨rfl, S2.out.on, fun hz => ?_⟩
    cases hz
  | some p =>
    obtain ⟨hpl, hpf⟩ := pathIs_len HS.out hp2
    unfold PathF at CP
    rw [hp2] at CP
    have CN2 := Go.Lib.hid (fun (v' : Value) (W : World) (h : Segs W v' p) => numbers_any v' p W h (by omega))
    have CM := Go.Lib.hid (fun (v' : Value) (W : World) (h : Segs W v' p) => pnorm_any v' p W h (by rw [bulk_is]; omega) (fun s hs => Nat.le_trans (hpf s hs) (by decide)))
    have CG := Go.Lib.hid (fun (v' : Value) (W : World) (h : Segs W v' (normS p)) => pgood_any v' (normS p) W h)
    have HEQ := Go.Lib.hid (show fillN 2 v = if goodP (normS p) && decide (lens p ≤ 2000) then 0 else 11 by simp [fillN, hp2])
    have HPV := Go.Lib.hid (show (pathIs v).getD [] = p by rw [hp2]; rfl)
    unfold FillF
    rw [HEQ.out]
    clear hp2 hl hpl hpf
    by_cases hln : 2000 < lens p
    · have z1 : ((lens p : Nat) : Int) > 2000 := by omega
      rw [decide_eq_false (show ¬ lens p ≤ 2000 by omega), Bool.and_false, if_neg (by decide)]
      clear hln HEQ
      go_enter Tryz.func108, Tryz.ntmps108
      go_wp2_with (first
        | (go_at_call 40; first | (refine (CN.out).mono ?_; rintro e x ⟨b, rfl, hR, hb⟩; have S1 := Go.Lib.hid (fi_new (x := ⟨v, false⟩) H9.out n9 hR hb); clear hR hb d0 d1 d2; obtain ⟨d0, d1, d2⟩ := S1.out.b3.cells; obtain ⟨c0, c1, c2, c3, c4, c5, c6, c7, c8⟩ := S1.out.b9.cells; have fB := S1.out.b9.free) | (trace "FELL N"; trace_state; fail_if_success skip))
        | (have h := S1.out; go_at_call 116; first | (refine (CP.out _ (HV.out _ h.on (H9.out.no8 n9))).mono ?_; intro e x hF; have HF := Go.Lib.hid (And.intro (h.below hF.1) hF.2); clear hF h; obtain ⟨vq, rfl, hq⟩ := HF.out.2; obtain ⟨aq, cq, rfl⟩ := hq.form; have HQ := Go.Lib.hid (hq.lower (Nat.le_trans hlt.2 S1.out.on.size) (Nat.le_trans hlt.2 S1.out.on.size)); have S2 := Go.Lib.hid HF.out.1; clear HF hq; clear S1; clear d0 d1 d2 c0 c1 c2 c3 c4 c5 c6 c7 c8 fB; obtain ⟨d0, d1, d2⟩ := S2.out.b3.cells; obtain ⟨c0, c1, c2, c3, c4, c5, c6, c7, c8⟩ := S2.out.b9.cells; have fB := S2.out.b9.free) | (trace "FELL P"; trace_state; fail_if_success skip))
        | (go_at_call 70; first | (refine (CN2.out _ _ HQ.out.segs).mono ?_; rintro e x ⟨rfl, hb⟩; have S3 := Go.Lib.hid (S2.out.below hb); replace HQ := Go.Lib.hid (HQ.out.keep hb); clear hb S2; clear d0 d1 d2 c0 c1 c2 c3 c4 c5 c6 c7 c8 fB; obtain ⟨d0, d1, d2⟩ := S3.out.b3.cells; obtain ⟨c0, c1, c2, c3, c4, c5, c6, c7, c8⟩ := S3.out.b9.cells; have fB := S3.out.b9.free) | (trace "FELL NUM"; trace_state; fail_if_success skip)))
      go_ret
      refine ⟨rfl, S3.out.on, fun hz => ?_⟩
      cases hz
    · have z1 : decide ((2000 : Int) < (lens p : Nat)) = false := decide_eq_false (by omega)
      rw [decide_eq_true (show lens p ≤ 2000 by omega), Bool.and_true]
      clear hln HEQ
      cases hg : goodP (normS p) with
      | false =>
        rw [hg] at CG
        rw [if_neg (by decide)]
        clear hg
        go_enter Tryz.func108, Tryz.ntmps108
        go_wp2_with (first
          | (go_at_call 40; first | (refine (CN.out).mono ?_; rintro e x ⟨b, rfl, hR, hb⟩; have S1 := Go.Lib.hid (fi_new (x := ⟨v, false⟩) H9.out n9 hR hb); clear hR hb d0 d1 d2; obtain ⟨d0, d1, d2⟩ := S1.out.b3.cells; obtain ⟨c0, c1, c2, c3, c4, c5, c6, c7, c8⟩ := S1.out.b9.cells; have fB := S1.out.b9.free) | (trace "FELL N"; trace_state; fail_if_success skip))
          | (have h := S1.out; go_at_call 116; first | (refine (CP.out _ (HV.out _ h.on (H9.out.no8 n9))).mono ?_; intro e x hF; have HF := Go.Lib.hid (And.intro (h.below hF.1) hF.2); clear hF h; obtain ⟨vq, rfl, hq⟩ := HF.out.2; obtain ⟨aq, cq, rfl⟩ := hq.form; have HQ := Go.Lib.hid (hq.lower (Nat.le_trans hlt.2 S1.out.on.size) (Nat.le_trans hlt.2 S1.out.on.size)); have S2 := Go.Lib.hid HF.out.1; clear HF hq; clear S1; clear d0 d1 d2 c0 c1 c2 c3 c4 c5 c6 c7 c8 fB; obtain ⟨d0, d1, d2⟩ := S2.out.b3.cells; obtain ⟨c0, c1, c2, c3, c4, c5, c6, c7, c8⟩ := S2.out.b9.cells; have fB := S2.out.b9.free) | (trace "FELL P"; trace_state; fail_if_success skip))
          | (go_at_call 70; first | (refine (CN2.out _ _ HQ.out.segs).mono ?_; rintro e x ⟨rfl, hb⟩; have S3 := Go.Lib.hid (S2.out.below hb); replace HQ := Go.Lib.hid (HQ.out.keep hb); clear hb S2; clear d0 d1 d2 c0 c1 c2 c3 c4 c5 c6 c7 c8 fB; obtain ⟨d0, d1, d2⟩ := S3.out.b3.cells; obtain ⟨c0, c1, c2, c3, c4, c5, c6, c7, c8⟩ := S3.out.b9.cells; have fB := S3.out.b9.free) | (trace "FELL NUM"; trace_state; fail_if_success skip))
          | (go_at_call 109; first | (refine (CM.out _ _ HQ.out.segs).mono ?_; rintro e x ⟨vn, rfl, hn, hb⟩; have HN := Go.Lib.hid hn.segs; have S4 := Go.Lib.hid (S3.out.below hb); replace HQ := Go.Lib.hid (HQ.out.keep hb); clear hb hn S3; clear d0 d1 d2 c0 c1 c2 c3 c4 c5 c6 c7 c8 fB; obtain ⟨d0, d1, d2⟩ := S4.out.b3.cells; obtain ⟨c0, c1, c2, c3, c4, c5, c6, c7, c8⟩ := S4.out.b9.cells; have fB := S4.out.b9.free) | (trace "FELL NORM"; trace_state; fail_if_success skip))
          | (go_at_call 69; first | (refine (CG.out _ _ HN.out).mono ?_; rintro e x ⟨rfl, hb⟩; have S5 := Go.Lib.hid (S4.out.below hb); replace HQ := Go.Lib.hid (HQ.out.keep hb); clear hb S4; clear d0 d1 d2 c0 c1 c2 c3 c4 c5 c6 c7 c8 fB; obtain ⟨d0, d1, d2⟩ := S5.out.b3.cells; obtain ⟨c0, c1, c2, c3, c4, c5, c6, c7, c8⟩ := S5.out.b9.cells; have fB := S5.out.b9.free; have fE := S5.out.b9.free; have S6 := Go.Lib.hid (S5.out.set2 (.slice aq p.length cq) (no8_s _ _ _))) | (trace "FELL GOOD"; trace_state; fail_if_success skip)))
        go_ret
        refine ⟨rfl, S5.out.on, fun hz => ?_⟩
        cases hz
      | true =>
        rw [hg] at CG
        rw [if_pos (by decide)]
        clear hg
        go_enter Tryz.func108, Tryz.ntmps108
        go_wp2_with (first
          | (go_at_call 40; first | (refine (CN.out).mono ?_; rintro e x ⟨b, rfl, hR, hb⟩; have S1 := Go.Lib.hid (fi_new (x := ⟨v, false⟩) H9.out n9 hR hb); clear hR hb d0 d1 d2; obtain ⟨d0, d1, d2⟩ := S1.out.b3.cells; obtain ⟨c0, c1, c2, c3, c4, c5, c6, c7, c8⟩ := S1.out.b9.cells; have fB := S1.out.b9.free) | (trace "FELL N"; trace_state; fail_if_success skip))
          | (have h := S1.out; go_at_call 116; first | (refine (CP.out _ (HV.out _ h.on (H9.out.no8 n9))).mono ?_; intro e x hF; have HF := Go.Lib.hid (And.intro (h.below hF.1) hF.2); clear hF h; obtain ⟨vq, rfl, hq⟩ := HF.out.2; obtain ⟨aq, cq, rfl⟩ := hq.form; have HQ := Go.Lib.hid (hq.lower (Nat.le_trans hlt.2 S1.out.on.size) (Nat.le_trans hlt.2 S1.out.on.size)); have S2 := Go.Lib.hid HF.out.1; clear HF hq; clear S1; clear d0 d1 d2 c0 c1 c2 c3 c4 c5 c6 c7 c8 fB; obtain ⟨d0, d1, d2⟩ := S2.out.b3.cells; obtain ⟨c0, c1, c2, c3, c4, c5, c6, c7, c8⟩ := S2.out.b9.cells; have fB := S2.out.b9.free) | (trace "FELL P"; trace_state; fail_if_success skip))
          | (go_at_call 70; first | (refine (CN2.out _ _ HQ.out.segs).mono ?_; rintro e x ⟨rfl, hb⟩; have S3 := Go.Lib.hid (S2.out.below hb); replace HQ := Go.Lib.hid (HQ.out.keep hb); clear hb S2; clear d0 d1 d2 c0 c1 c2 c3 c4 c5 c6 c7 c8 fB; obtain ⟨d0, d1, d2⟩ := S3.out.b3.cells; obtain ⟨c0, c1, c2, c3, c4, c5, c6, c7, c8⟩ := S3.out.b9.cells; have fB := S3.out.b9.free) | (trace "FELL NUM"; trace_state; fail_if_success skip))
          | (go_at_call 109; first | (refine (CM.out _ _ HQ.out.segs).mono ?_; rintro e x ⟨vn, rfl, hn, hb⟩; have HN := Go.Lib.hid hn.segs; have S4 := Go.Lib.hid (S3.out.below hb); replace HQ := Go.Lib.hid (HQ.out.keep hb); clear hb hn S3; clear d0 d1 d2 c0 c1 c2 c3 c4 c5 c6 c7 c8 fB; obtain ⟨d0, d1, d2⟩ := S4.out.b3.cells; obtain ⟨c0, c1, c2, c3, c4, c5, c6, c7, c8⟩ := S4.out.b9.cells; have fB := S4.out.b9.free) | (trace "FELL NORM"; trace_state; fail_if_success skip))
          | (go_at_call 69; first | (refine (CG.out _ _ HN.out).mono ?_; rintro e x ⟨rfl, hb⟩; have S5 := Go.Lib.hid (S4.out.below hb); replace HQ := Go.Lib.hid (HQ.out.keep hb); clear hb S4; clear d0 d1 d2 c0 c1 c2 c3 c4 c5 c6 c7 c8 fB; obtain ⟨d0, d1, d2⟩ := S5.out.b3.cells; obtain ⟨c0, c1, c2, c3, c4, c5, c6, c7, c8⟩ := S5.out.b9.cells; have fB := S5.out.b9.free; have fE := S5.out.b9.free; have S6 := Go.Lib.hid (S5.out.set2 (.slice aq p.length cq) (no8_s _ _ _))) | (trace "FELL GOOD"; trace_state; fail_if_success skip)))
        go_ret
        refine ⟨rfl, S6.out.on, fun _ => ?_⟩
        have HQ2 := segs_off HQ.out (off_set (B := B) (i := 2) (.slice aq p.length cq) hlt.1) (by simp)
        refine ⟨HOK.out, ⟨hlt.1, Nat.le_trans hlt.2 S6.out.on.size⟩, aq, _, cq, Ac, nc, cc, S6.out.b9, ?_, u32_on HC.out.1 HC.out.2 S6.out.on (fun k e => by subst e; exact hlt.1), HC.out.2⟩
        show OwnSegsF 117 N N _ _ ((pathIs v).getD [])
        rw [HPV.out]
        exact HQ2
end Go.Proofs.YtlhdjdnflpilbaaGreatDoor.Att
namespace Go.Proofs.YtlhdjdnflpilbaaGreatDoor.Att
open Go.RowKit Mem Segm Oct Seg
theorem fill_any (f k : Nat) (A : Option Addr) (c : Nat) (v : List Nat) (w : World) (B N : Nat) (a : At) (hA : BoxA w B N a) (hv : U8s w (.slice A v.length c) v) (h1 : 1 ≤ k) (h8 : k ≤ 8) (hl : longB k v.length = true) (hm : v.length ≤ 65535) :
    Calls Tryz.prog 108 #[.agg #[.int .i64 f, .int .i64 k, .slice A v.length c], .pointer (some ⟨B, 0, none⟩)] w (FillF B N a k v w) := by
  have hk : k = 1 ∨ k = 2 ∨ k = 3 ∨ k = 4 ∨ k = 5 ∨ k = 6 ∨ k = 7 ∨ k = 8 := by omega
  rcases hk with rfl | rfl | rfl | rfl | rfl | rfl | rfl | rfl
  · exact fill1 f A c v w B N a hA hv (by simpa [longB] using hl)
  · exact fill2 f A c v w B N a hA hv hm
  · exact fill3 f A c v w B N a hA hv (by simpa [longB] using hl)
  · exact fill4 f A c v w B N a hA hv (by simpa [longB] using hl)
  · exact fill5 f A c v w B N a hA hv (by simpa [longB] using hl)
  · exact fill6 f A c v w B N a hA hv (by simpa [longB] using hl)
  · exact fill7 f A c v w B N a hA hv (by simpa [longB] using hl)
  · exact fill8 f A c v w B N a hA hv (by simpa [longB] using hl)
theorem or_pow {h : Int} {k : Nat} (h0 : 0 ≤ h) (h5 : h < 512) (hk : k ≤ 8) (hb : h / 2 ^ k % 2 = 0) : bits .or .i64 h (2 ^ k) = h + 2 ^ k := by
  obtain ⟨x, rfl⟩ := Int.eq_ofNat_of_zero_le h0
  have h2 : 2 ^ k ≤ 256 := Nat.le_trans (Nat.pow_le_pow_right (by omega) hk) (by decide)
  have e2 : (BitVec.ofInt 64 (2 ^ k)).toNat = 2 ^ k := by
    rw [ofInt_nat]
    have h1 : (2 : Int) ^ k = ((2 ^ k : Nat) : Int) := by simp
    rw [h1]
    generalize 2 ^ k = y at h2
    omega
  have e1 : (BitVec.ofInt 64 (x : Int)).toNat = x := by rw [ofInt_nat]; omega
  have hb2 : x / 2 ^ k % 2 = 0 := by
    have hk2 : k = 0 ∨ k = 1 ∨ k = 2 ∨ k = 3 ∨ k = 4 ∨ k = 5 ∨ k = 6 ∨ k = 7 ∨ k = 8 := by omega
    rcases hk2 with rfl | rfl | rfl | rfl | rfl | rfl | rfl | rfl | rfl <;> simp only [Nat.reducePow, Int.reducePow] at hb ⊢ <;> omega
  show IntKind.i64.wrap ((BitVec.ofInt 64 (x : Int) ||| BitVec.ofInt 64 (2 ^ k)).toNat : Nat) = _
  rw [BitVec.toNat_or, e1, e2]
  have e3 : x ||| 2 ^ k = x + 2 ^ k := by
    apply Nat.eq_of_testBit_eq
    intro i
    rw [Nat.testBit_or, Nat.testBit_two_pow]
    have h9 : ∀ y : Nat, y < 512 → ∀ k : Nat, k < 9 → y / 2 ^ k % 2 = 0 → y ||| 2 ^ k = y + 2 ^ k := by decide +kernel
    rw [← h9 x (by omega) k (by omega) hb2, Nat.testBit_or, Nat.testBit_two_pow]
  rw [e3, wrap_low (by omega)]
  simp
theorem sub_known {f k : Nat} {v : List Nat} (hk : ¬ (k < 1 ∨ 8 < k)) : subOf f k v = if ownF f k ≠ flagN k then 4 else if longB k v.length = false then 5 else fillN k v := by
  unfold subOf fillN
  rw [if_neg hk]
  cases pathIs v <;> rfl
def putHas (a : At) (h : Int) : At := ⟨h, a.origin, a.path, a.hop, a.med, a.pref, a.aas, a.aid, a.comms⟩
theorem lay_known {a : At} {k : Nat} {v : List Nat} (hk : ¬ (k < 1 ∨ 8 < k)) : layA a k v = fillA (putHas a (a.has + 2 ^ k)) k v := by
  unfold layA
  rw [if_neg hk]; rfl
theorem BoxA.sethas {W : World} {B N : Nat} {a : At} (h : BoxA W B N a) (x : Int) (hx : (Lit.int .i64 x).wf = true) : BoxA (W.setCell ⟨B, 0, none⟩ (.int .i64 x)) B N (putHas a x) := by
  obtain ⟨h1, h2, Ap, np, cp, Ac, nc, cc, h3, h4, h5, h6⟩ := h
  exact ⟨⟨hx, h1.2⟩, ⟨h2.1, by simpa using h2.2⟩, Ap, np, cp, Ac, nc, cc, h3.set0 _, segs_off h4 (off_set _ h2.1) (by simp), u32_off h5 h6 (off_set _ h2.1) (by simp), h6⟩
def ReadF (B N : Nat) (a : At) (f k : Nat) (v : List Nat) (w : World) (e : Ending) (w' : World) : Prop :=
  e = .returned (.int .i64 (subOf f k v : Nat)) ∧ Only (fun q => q = B) w w' ∧ (subOf f k v = 0 → BoxA w' B N (layA a k v))
set_option maxRecDepth 100000 in
set_option maxHeartbeats 4000000 in
theorem read_any (f k : Nat) (A : Option Addr) (c : Nat) (v : List Nat) (w : World) (B N : Nat) (a : At) (hA : BoxA w B N a) (hv : U8s w (.slice A v.length c) v) (hS : Shp w) (hf : f < 256) (hm : v.length ≤ 65535) (h0 : 0 ≤ a.has) (h5 : a.has < 512) (hb : a.has / 2 ^ k % 2 = 0) :
    Calls Tryz.prog 88 #[.agg #[.int .i64 f, .int .i64 k, .slice A v.length c], .pointer (some ⟨B, 0, none⟩)] w (ReadF B N a f k v w) := by
  have q3 := Box3.new w 90 (.int .i64 f) (.int .i64 k) (.slice A v.length c)
  have hb1 : Below w.heap.size w (w.alloc (.cells #[.int .i64 f, .int .i64 k, .slice A v.length c] 90)) := (Below.refl _ _).alloc (Nat.le_refl _) _
  have Q0 := Go.Lib.hid (And.intro q3 hb1)
  have HA := Go.Lib.hid hA
  have HU := Go.Lib.hid hv
  have HS := Go.Lib.hid hS
  obtain ⟨d0, d1, d2⟩ := q3.cells
  clear q3 hb1
  unfold ReadF
  by_cases hk : k < 1 ∨ 8 < k
  · have CK := Go.Lib.hid (fun (W : World) => show Calls Tryz.prog 93 #[.int .i64 k] W (Tells (.bool false) W) from by
      have h := known_any (k : Int) W
      rw [show (decide ((1 : Int) ≤ (k : Int)) && decide ((k : Int) ≤ 8)) = false by
        rcases hk with h | h
        · rw [decide_eq_false (by omega)]; rfl
        · rw [decide_eq_false (show ¬ (k : Int) ≤ 8 by omega)]; simp] at h
      exact h)
    have HL := Go.Lib.hid (show layA a k v = a by unfold layA; rw [if_pos hk])
    have n128 := byte128 f hf
    by_cases hf2 : f < 128
    · rw [if_pos hf2] at n128
      have HE := Go.Lib.hid (show subOf f k v = 2 by unfold subOf; rw [if_pos hk, if_pos hf2])
      rw [HE.out]
      clear hk hf2 hf hA hv hS
      go_enter Tryz.func88, Tryz.ntmps88
      go_wp2_with (go_at_call 93; refine (CK.out _).mono ?_; rintro e x ⟨rfl, hx⟩; have Q1 := Go.Lib.hid (And.intro (Q0.out.1.keep hx) (Q0.out.2.trans (hx.mono Q0.out.2.size))); clear hx d0 d1 d2; obtain ⟨d0, d1, d2⟩ := Q1.out.1.cells)
      go_ret
      exact ⟨rfl, Only.of Q1.out.2, fun hz => by cases hz⟩
    · rw [if_neg hf2] at n128
      have HE := Go.Lib.hid (show subOf f k v = 0 by unfold subOf; rw [if_pos hk, if_neg hf2])
      rw [HE.out, HL.out]
      clear hk hf2 hf hA hv hS
      go_enter Tryz.func88, Tryz.ntmps88
      go_wp2_with (go_at_call 93; refine (CK.out _).mono ?_; rintro e x ⟨rfl, hx⟩; have Q1 := Go.Lib.hid (And.intro (Q0.out.1.keep hx) (Q0.out.2.trans (hx.mono Q0.out.2.size))); clear hx d0 d1 d2; obtain ⟨d0, d1, d2⟩ := Q1.out.1.cells)
      go_ret
      exact ⟨rfl, Only.of Q1.out.2, fun hz => HA.out.below Q1.out.2⟩
  · have CK := Go.Lib.hid (fun (W : World) => show Calls Tryz.prog 93 #[.int .i64 k] W (Tells (.bool true) W) from by
      have h := known_any (k : Int) W
      rw [decide_eq_true (show (1 : Int) ≤ (k : Int) by omega), decide_eq_true (show (k : Int) ≤ 8 by omega)] at h
      exact h)
    have CF := Go.Lib.hid (fun (W : World) (h : Below w.heap.size w W) => flagged_any f k (.slice A v.length c) W (HS.out.keep h) hf (by omega) (by omega))
    have CT := Go.Lib.hid (fun (W : World) (h : Below w.heap.size w W) => fits_any k v.length W (HS.out.keep h) (by omega) (by omega) (by omega))
    have CI := Go.Lib.hid (fun (W : World) (a : At) (h : BoxA W B N a) (hu : U8s W (.slice A v.length c) v) (hl : longB k v.length = true) => fill_any f k A c v W B N a h hu (by omega) (by omega) hl hm)
    rw [sub_known hk]
    by_cases hfl : ownF f k = flagN k
    · rw [if_neg (fun h => h hfl)]
      rw [decide_eq_true hfl] at CF
      cases hlg : longB k v.length with
      | false =>
        rw [hlg] at CT
        rw [if_pos rfl]
        clear hk hf hA hv hS hlg hfl
        go_enter Tryz.func88, Tryz.ntmps88
        go_wp2_with (first
          | (go_at_call 93; refine (CK.out _).mono ?_; rintro e x ⟨rfl, hx⟩; have Q1 := Go.Lib.hid (And.intro (Q0.out.1.keep hx) (Q0.out.2.trans (hx.mono Q0.out.2.size))); clear hx d0 d1 d2 Q0; obtain ⟨d0, d1, d2⟩ := Q1.out.1.cells)
          | (go_at_call 106; refine (CF.out _ Q1.out.2).mono ?_; rintro e x ⟨rfl, hx⟩; have Q2 := Go.Lib.hid (And.intro (Q1.out.1.keep hx) (Q1.out.2.trans (hx.mono Q1.out.2.size))); clear hx d0 d1 d2 Q1; obtain ⟨d0, d1, d2⟩ := Q2.out.1.cells)
          | (go_at_call 107; refine (CT.out _ Q2.out.2).mono ?_; rintro e x3 ⟨rfl, hx⟩; have Q3 := Go.Lib.hid (And.intro (Q2.out.1.keep hx) (Q2.out.2.trans (hx.mono Q2.out.2.size))); clear hx d0 d1 d2 Q2; obtain ⟨d0, d1, d2⟩ := Q3.out.1.cells))
        go_ret
        exact ⟨rfl, Only.of Q3.out.2, fun hz => by cases hz⟩
      | true =>
        rw [hlg] at CT
        rw [if_neg (by decide)]
        have HW := Go.Lib.hid (show (Lit.int .i64 (a.has + 2 ^ k)).wf = true by
          have h2 : 2 ^ k ≤ 256 := Nat.le_trans (Nat.pow_le_pow_right (by omega) (show k ≤ 8 by omega)) (by decide)
          have h1 : (2 : Int) ^ k = ((2 ^ k : Nat) : Int) := by simp
          rw [h1]
          generalize 2 ^ k = y at h2
          simp [Lit.wf, IntKind.min, IntKind.max, IntKind.signed, IntKind.bits]; omega)
        have HO := Go.Lib.hid (show bits .or .i64 a.has (wrap64 (2 ^ min k 64)) = a.has + 2 ^ k by
          rw [Nat.min_eq_left (show k ≤ 64 by omega)]
          have e : wrap64 ((2 : Int) ^ k) = 2 ^ k := by
            have h1 : (2 : Int) ^ k = ((2 ^ k : Nat) : Int) := by simp
            have h2 : 2 ^ k ≤ 256 := Nat.le_trans (Nat.pow_le_pow_right (by omega) (show k ≤ 8 by omega)) (by decide)
            rw [h1]
            generalize 2 ^ k = y at h2
            unfold wrap64; omega
          rw [e]
          exact or_pow h0 h5 (by omega) hb)
        have z0 : (0 : Int) ≤ (k : Int) := by omega
        have HLA := Go.Lib.hid (show layA a k v = fillA (putHas a (a.has + 2 ^ k)) k v from lay_known hk)
        rw [HLA.out]
        have HLG := Go.Lib.hid hlg
        have hB := hA.lt
        clear hk hf hA hv hS hlg hfl h0 h5 hb
        go_enter Tryz.func88, Tryz.ntmps88
        go_wp2_with (first
          | (go_at_call 93; refine (CK.out _).mono ?_; rintro e x ⟨rfl, hx⟩; have Q1 := Go.Lib.hid (And.intro (Q0.out.1.keep hx) (Q0.out.2.trans (hx.mono Q0.out.2.size))); clear hx d0 d1 d2 Q0; obtain ⟨d0, d1, d2⟩ := Q1.out.1.cells)
          | (go_at_call 106; refine (CF.out _ Q1.out.2).mono ?_; rintro e x ⟨rfl, hx⟩; have Q2 := Go.Lib.hid (And.intro (Q1.out.1.keep hx) (Q1.out.2.trans (hx.mono Q1.out.2.size))); clear hx d0 d1 d2 Q1; obtain ⟨d0, d1, d2⟩ := Q2.out.1.cells)
          | (go_at_call 107; refine (CT.out _ Q2.out.2).mono ?_; rintro e x3 ⟨rfl, hx⟩; have Q3 := Go.Lib.hid (And.intro (Q2.out.1.keep hx) (Q2.out.2.trans (hx.mono Q2.out.2.size))); clear hx d0 d1 d2 Q2; obtain ⟨d0, d1, d2⟩ := Q3.out.1.cells))
        have QD := Go.Lib.hid (And.intro (Q3.out.1.keep (Below.refl _ _).drew) (Q3.out.2.trans ((Below.refl _ x3).drew.mono Q3.out.2.size)))
        have A3 := Go.Lib.hid (HA.out.below QD.out.2)
        clear d0 d1 d2
        obtain ⟨d0, d1, d2⟩ := QD.out.1.cells
        obtain ⟨-, -, Ap, np, cp, Ac, nc, cc, b9, -, -, -⟩ := A3.out
        obtain ⟨-, -, Ap0, np0, cp0, Ac0, nc0, cc0, b90, -, -, -⟩ := HA.out
        have HA9 := Go.Lib.hid b90
        clear b90
        obtain ⟨c0, -⟩ := b9.cells
        have fB := b9.free
        clear b9
        go_region
        rw [HO.out]
        clear d0 d1 d2 c0 fB
        have A4 := Go.Lib.hid (((HA.out.below Q3.out.2).sethas (a.has + 2 ^ k) HW.out).below (Below.refl _ _).drew)
        have D4 := Go.Lib.hid ((Q3.out.1.far (i := 0) (show w.heap.size ≠ B by omega) (.int .i64 (a.has + 2 ^ k))).keep (Below.refl _ _).drew)
        have O4 := Go.Lib.hid (((Only.of (F := fun q => q = B) Q3.out.2).set (i := 0) rfl (.int .i64 (a.has + 2 ^ k))).drew)
        obtain ⟨W4, hW4⟩ : ∃ W4, W4 = (x3.setCell ⟨B, 0, none⟩ (.int .i64 (a.has + 2 ^ k))).drew := ⟨_, rfl⟩
        rw [← hW4] at A4 D4 O4 ⊢
        clear hW4
        have CIW := Go.Lib.hid (CI.out W4 _ A4.out (u8_only HU.out (HA9.out.no8 n9) O4.out) HLG.out)
        obtain ⟨d0, d1, d2⟩ := D4.out.cells
        go_wp2_with (go_at_call 108; first | (refine (CIW.out).mono ?_; rintro e x ⟨rfl, ho5, hg5⟩; have R5 := Go.Lib.hid (And.intro (O4.out.trans ho5) hg5); clear ho5 hg5) | (trace "FELL F"; trace_state; fail_if_success skip))
        go_ret
        exact ⟨rfl, R5.out.1, R5.out.2⟩
    · rw [if_pos hfl]
      rw [decide_eq_false hfl] at CF
      clear hk hf hA hv hS hfl
      go_enter Tryz.func88, Tryz.ntmps88
      go_wp2_with (first
        | (go_at_call 93; refine (CK.out _).mono ?_; rintro e x ⟨rfl, hx⟩; have Q1 := Go.Lib.hid (And.intro (Q0.out.1.keep hx) (Q0.out.2.trans (hx.mono Q0.out.2.size))); clear hx d0 d1 d2 Q0; obtain ⟨d0, d1, d2⟩ := Q1.out.1.cells)
        | (go_at_call 106; refine (CF.out _ Q1.out.2).mono ?_; rintro e x ⟨rfl, hx⟩; have Q2 := Go.Lib.hid (And.intro (Q1.out.1.keep hx) (Q1.out.2.trans (hx.mono Q1.out.2.size))); clear hx d0 d1 d2 Q1; obtain ⟨d0, d1, d2⟩ := Q2.out.1.cells))
      go_ret
      exact ⟨rfl, Only.of Q2.out.2, fun hz => by cases hz⟩
end Go.Proofs.YtlhdjdnflpilbaaGreatDoor.Att
namespace Go.Proofs.YtlhdjdnflpilbaaGreatDoor.Att
open Segm Rise Oct
theorem item_facts {l : List Nat} {x : Item} (hs : Small l) (h : itemOf l = some x) : x.f < 256 ∧ x.k < 256 ∧ x.v.length ≤ 65535 ∧ (255 < x.v.length → x.f / 16 % 2 = 1) ∧ Small x.v ∧ Small x.r ∧ x.r.length + 3 ≤ l.length ∧ x.r.length + x.v.length ≤ l.length := by
  match l, hs, h with
  | [], _, h => simp [itemOf] at h
  | [_], _, h => simp [itemOf] at h
  | f :: k :: r, hs, h =>
    have hf := hs f (by simp)
    have hk := hs k (by simp)
    have hr : Small r := fun n hn => hs n (by simp [hn])
    unfold itemOf at h
    dsimp only at h
    by_cases hl : f / 16 % 2 = 1
    · rw [if_pos hl] at h
      match r, hr, h with
      | [], _, h => simp at h
      | [_], _, h => simp at h
      | n1 :: n0 :: r2, hr, h =>
        have h1 := hr n1 (by simp)
        have h0 := hr n0 (by simp)
        have h2 : Small r2 := fun n hn => hr n (by simp [hn])
        dsimp only at h
        split at h
        · injection h with h
          subst h
          dsimp only
          refine ⟨hf, hk, ?_, fun _ => hl, h2.take _, h2.drop _, ?_, ?_⟩ <;> simp only [List.length_take, List.length_drop, List.length_cons] <;> omega
        · cases h
    · rw [if_neg hl] at h
      match r, hr, h with
      | [], _, h => simp at h
      | n0 :: r2, hr, h =>
        have h0 := hr n0 (by simp)
        have h2 : Small r2 := fun n hn => hr n (by simp [hn])
        dsimp only at h
        split at h
        · injection h with h
          subst h
          dsimp only
          refine ⟨hf, hk, ?_, fun hh => ?_, h2.take _, h2.drop _, ?_, ?_⟩
          · simp only [List.length_take]; omega
          · simp only [List.length_take] at hh; omega
          · simp only [List.length_drop, List.length_cons]; omega
          · simp only [List.length_take, List.length_drop, List.length_cons]; omega
        · cases h
theorem decA_fuel : ∀ (n m : Nat) (seen : List Nat) (a : At) (l : List Nat), Small l → l.length ≤ n → l.length ≤ m → decA n seen a l = decA m seen a l
  | 0, 0, _, _, _, _, _, _ => rfl
  | 0, m + 1, seen, a, l, _, h, _ => by
    obtain rfl : l = [] := List.eq_nil_of_length_eq_zero (by omega)
    rfl
  | n + 1, 0, seen, a, l, _, _, h => by
    obtain rfl : l = [] := List.eq_nil_of_length_eq_zero (by omega)
    rfl
  | n + 1, m + 1, seen, a, l, hs, hn, hm => by
    unfold decA
    cases hi : itemOf l with
    | none => rfl
    | some x =>
      dsimp only
      obtain ⟨-, -, -, -, -, h6, h7, -⟩ := item_facts hs hi
      rw [decA_fuel n m (x.k :: seen) (layA a x.k x.v) x.r h6 (by omega) (by omega)]
def decF (seen : List Nat) (a : At) (l : List Nat) : No ⊕ At := decA l.length seen a l
theorem decF_none {seen : List Nat} {a : At} {l : List Nat} (hne : l ≠ []) (h : itemOf l = none) : decF seen a l = .inl ⟨3, 1, []⟩ := by
  unfold decF
  obtain ⟨n, hn⟩ : ∃ n, l.length = n + 1 := ⟨l.length - 1, by have := List.length_pos_iff.2 hne; omega⟩
  rw [hn]
  unfold decA
  rw [if_neg hne, h]
theorem decF_some {seen : List Nat} {a : At} {l : List Nat} {x : Item} (hs : Small l) (h : itemOf l = some x) :
    decF seen a l = if x.k ∈ seen then .inl ⟨3, 1, []⟩ else if subOf x.f x.k x.v = 0 then decF (x.k :: seen) (layA a x.k x.v) x.r else .inl (badN (subOf x.f x.k x.v) x) := by
  have hne : l ≠ [] := fun e => by subst e; cases h
  obtain ⟨-, -, -, -, -, h6, h7, -⟩ := item_facts hs h
  obtain ⟨n, hn⟩ : ∃ n, l.length = n + 1 := ⟨l.length - 1, by omega⟩
  have e := decA_fuel n x.r.length (x.k :: seen) (layA a x.k x.v) x.r h6 (by omega) (Nat.le_refl _)
  have hh : decA (n + 1) seen a l = if l = [] then .inr (normA a) else match itemOf l with
    | none => .inl ⟨3, 1, []⟩
    | some x => if x.k ∈ seen then .inl ⟨3, 1, []⟩ else if subOf x.f x.k x.v = 0 then decA n (x.k :: seen) (layA a x.k x.v) x.r else .inl (badN (subOf x.f x.k x.v) x) := rfl
  show decA l.length seen a l = _
  rw [hn, hh, if_neg hne, h]
  dsimp only
  rw [e]
  rfl
structure Fine (seen : List Nat) (a : At) : Prop where
  h0 : 0 ≤ a.has
  h5 : a.has < 512
  free : ∀ k : Nat, k ≤ 8 → k ∉ seen → a.has / 2 ^ k % 2 = 0
  zero : a.has % 2 = 0
  bk : bulk a.path ≤ 40000
  fit : FitS 4999 a.path
  cm : a.comms.length < 5000
theorem fine_zero : Fine [] zeroA := ⟨by decide, by decide, fun k _ _ => by simp [zeroA], by decide, by decide, (fun s hs => by cases hs), by decide⟩
theorem div_add_pow {h : Int} {j k : Nat} (hj : j ≤ 8) (hk : k ≤ 8) (hb : h / 2 ^ k % 2 = 0) (hne : j ≠ k) : (h + 2 ^ k) / 2 ^ j % 2 = h / 2 ^ j % 2 := by
  have hj2 : j = 0 ∨ j = 1 ∨ j = 2 ∨ j = 3 ∨ j = 4 ∨ j = 5 ∨ j = 6 ∨ j = 7 ∨ j = 8 := by omega
  have hk2 : k = 0 ∨ k = 1 ∨ k = 2 ∨ k = 3 ∨ k = 4 ∨ k = 5 ∨ k = 6 ∨ k = 7 ∨ k = 8 := by omega
  rcases hk2 with rfl | rfl | rfl | rfl | rfl | rfl | rfl | rfl | rfl <;> rcases hj2 with rfl | rfl | rfl | rfl | rfl | rfl | rfl | rfl | rfl <;> simp only [Int.reducePow] at hb ⊢ <;> first | omega | exact absurd rfl hne
theorem add_pow_lt {h : Int} {k : Nat} (h0 : 0 ≤ h) (h5 : h < 512) (hk : k ≤ 8) (hb : h / 2 ^ k % 2 = 0) : h + 2 ^ k < 512 := by
  have hk2 : k = 0 ∨ k = 1 ∨ k = 2 ∨ k = 3 ∨ k = 4 ∨ k = 5 ∨ k = 6 ∨ k = 7 ∨ k = 8 := by omega
  rcases hk2 with rfl | rfl | rfl | rfl | rfl | rfl | rfl | rfl | rfl <;> simp only [Int.reducePow] at hb ⊢ <;> omega
theorem Fine.lay {seen : List Nat} {a : At} (h : Fine seen a) {f k : Nat} {v : List Nat} (hs : Small v) (hl : v.length ≤ 65535) (hk : k ∉ seen) (hsub : subOf f k v = 0) : Fine (k :: seen) (layA a k v) := by
  by_cases hu : k < 1 ∨ 8 < k
  · rw [show layA a k v = a by unfold layA; rw [if_pos hu]]
    exact ⟨h.h0, h.h5, fun j hj hn => h.free j hj (fun hm => hn (by simp [hm])), h.zero, h.bk, h.fit, h.cm⟩
  · have hb := h.free k (by omega) hk
    have hp : (0 : Int) < 2 ^ k := by
      have h1 : (2 : Int) ^ k = ((2 ^ k : Nat) : Int) := by simp
      have := Nat.two_pow_pos k
      omega
    have e : (layA a k v).has = a.has + 2 ^ k := by unfold layA; rw [if_neg hu]
    have ep : (layA a k v).path = if k = 2 then (pathIs v).getD [] else a.path := by unfold layA; rw [if_neg hu]
    have ec : (layA a k v).comms = if k = 8 then quads v else a.comms := by unfold layA; rw [if_neg hu]
    have hq : ∀ p, pathIs v = some p → bulk p ≤ 40000 ∧ FitS 4999 p := fun p hp => by
      obtain ⟨h1, h2⟩ := pathIs_len hs hp
      exact ⟨by rw [bulk_is]; omega, fun s hs => Nat.le_trans (h2 s hs) (by decide)⟩
    have hq2 : bulk ((pathIs v).getD []) ≤ 40000 ∧ FitS 4999 ((pathIs v).getD []) := by
      cases hh : pathIs v with
      | none => exact ⟨Nat.zero_le _, fun s hs => by cases hs⟩
      | some p => exact hq p hh
    refine ⟨by rw [e]; have := h.h0; omega, by rw [e]; exact add_pow_lt h.h0 h.h5 (by omega) hb, fun j hj hn => ?_, ?_, ?_, ?_, ?_⟩
    · rw [e]
      have hne : j ≠ k := fun e2 => hn (by simp [e2])
      rw [div_add_pow hj (by omega) hb hne]
      exact h.free j hj (fun hm => hn (by simp [hm]))
    · rw [e]
      have h1 := div_add_pow (j := 0) (by omega) (show k ≤ 8 by omega) hb (by omega)
      simp only [Int.pow_zero, Int.ediv_one] at h1
      rw [h1]
      exact h.zero
    · rw [ep]; split; exact hq2.1; exact h.bk
    · rw [ep]; split; exact hq2.2; exact h.fit
    · rw [ec]
      split
      · rename_i h8
        subst h8
        unfold subOf at hsub
        rw [if_neg hu] at hsub
        split at hsub
        · cases hsub
        · split at hsub
          · cases hsub
          · rename_i h9
            have h9' : longB 8 v.length = true := by simpa using h9
            have h10 : v.length % 4 = 0 ∧ v.length ≤ 1020 := by simpa [longB] using h9'
            unfold quads
            rw [quadsN_len]
            omega
      · exact h.cm
end Go.Proofs.YtlhdjdnflpilbaaGreatDoor.Att
namespace Go.Proofs.YtlhdjdnflpilbaaGreatDoor.Att
open Go.RowKit Mem Segm Oct Seg Nums
structure InSt (wr : World) (k : Int) (A : Option Addr) (c i : Nat) (ns : List Nat) (W : World) : Prop where
  blk : W.heap[wr.heap.size]? = some (.cells #[.int .i64 k, .slice A i c] 117)
  own : W.ownsRow (wr.heap.size + 1) 24 1 (.slice A i c) i (ns.map fun n : Nat => Value.int .u32 n)
  low : Below wr.heap.size wr W
section
variable {wr W W2 : World} {k : Int} {A : Option Addr} {c i : Nat} {ns : List Nat}
theorem InSt.lt (h : InSt wr k A c i ns W) : wr.heap.size < W.heap.size := (Array.getElem?_eq_some_iff.1 h.blk).1
theorem InSt.below (h : InSt wr k A c i ns W) (hb : Below W.heap.size W W2) : InSt wr k A c i ns W2 :=
  ⟨(hb.block _ h.lt).trans h.blk, own_keep h.own hb, h.low.trans (hb.mono h.low.size)⟩
theorem InSt.cell (h : InSt wr k A c i ns W) : W.cell? ⟨wr.heap.size, 1, none⟩ = some (.slice A i c) := (cell0 h.blk).2
theorem InSt.start (wr : World) (k : Int) : InSt wr k none 0 0 [] (wr.alloc (.cells #[.int .i64 k, .slice none 0 0] 117)) :=
  ⟨heap_alloc_new _ _, World.ownsRow_nil _ _ _ _, (Below.refl _ _).alloc (Nat.le_refl _) _⟩
theorem InSt.blk8 {W8 : World} {o : Obj} (h : InSt wr k A c i ns W) (hb : Below (wr.heap.size + 1) (W.alloc o) W8) : W8.heap[wr.heap.size]? = some (.cells #[.int .i64 k, .slice A i c] 117) :=
  (hb.block _ (by omega)).trans ((((Below.refl W.heap.size W).alloc (Nat.le_refl _) o).block _ h.lt).trans h.blk)
theorem InSt.push {W8 : World} {o : Obj} {A4 : Option Addr} {c4 y : Nat} (h : InSt wr k A c i ns W) (hb : Below (wr.heap.size + 1) (W.alloc o) W8)
    (ho : W8.ownsRow (wr.heap.size + 1) 24 1 (.slice A4 (i + 1) c4) (i + 1) ((ns.map fun n : Nat => Value.int .u32 n) ++ [.int .u32 y])) :
    InSt wr k A4 c4 (i + 1) (ns ++ [y]) (W8.setCell ⟨wr.heap.size, 1, none⟩ (.slice A4 (i + 1) c4)) := by
  refine ⟨set1 _ (h.blk8 hb), ?_, ?_⟩
  · rw [List.map_append]
    exact own_off ho (fun q hq => Go.RowKit.Below.heap_setCell _ _ _ _ (by show q ≠ wr.heap.size; omega))
  · have h1 := (Below.refl W.heap.size W).alloc (Nat.le_refl _) o
    exact ((h.low.trans (h1.mono h.low.size)).trans (hb.mono (by omega))).setCell (p := ⟨wr.heap.size, 1, none⟩) (Nat.le_refl _) _
end
theorem own_new {W : World} {base n : Nat} {e : TypeId} {size m : Nat} {v : Value} {xs : List Value} (h : W.ownsRow base e size v m xs) (hn : n ≤ base) : NewAt n v := fun b off m' c e' h0 => Nat.le_trans hn (h.lt b (by rw [e']; rfl)).1
theorem wrap_sum2 {j i t : Nat} (h : t = j + 2 + 4 * i) (hb : t ≤ 1000000) : IntKind.i64.wrap (IntKind.i64.wrap ((j : Int) + 2) + IntKind.i64.wrap (4 * (i : Int))) = (t : Int) := by
  simp only [IntKind.wrap_i64]; omega
theorem wrap_sum6 {j i t : Nat} (h : t = j + 2 + 4 * i) (hb : t ≤ 1000000) {t4 : Nat} (h4 : t4 = t + 4) : IntKind.i64.wrap (IntKind.i64.wrap ((j : Int) + 6) + IntKind.i64.wrap (4 * (i : Int))) = (t4 : Int) := by
  simp only [IntKind.wrap_i64]; omega
set_option maxRecDepth 100000 in
set_option maxHeartbeats 8000000 in
theorem refPath_any (v : Value) (b : List Nat) (w : World) (hv : U8s w v b) (hl : b.length ≤ 100000) : Calls Tryz.prog 113 #[v] w (PathF b w) := by
  obtain ⟨ie, E⟩ := elemSeg
  obtain ⟨i3, E3⟩ := elem32
  obtain ⟨Ab, cb, rfl, hlc, hcc⟩ := hv.form
  have HU := Go.Lib.hid hv
  have CN := Go.Lib.hid (fun (v : Value) (i : Nat) (W : World) (h : U8s W v ((b.drop i).take 4)) => num_any v _ W h (List.length_take_le _ _))
  have ST0 := Go.Lib.hid (show OwnSegsF 117 w.heap.size w.heap.size (w.alloc (.cells #[] 117)) (.slice (some ⟨w.heap.size, 0, none⟩) 0 0) [] ∧ Below w.heap.size w (w.alloc (.cells #[] 117)) from ⟨⟨[], World.ownsRow_lit (base := w.heap.size) (e := 117) (size := 2) w #[] 0 (Nat.le_refl _) (Nat.zero_le _) rfl, Nums32.nil _, (fun x hx => by cases hx), FreshQ.nil _⟩, (Below.refl _ _).alloc (Nat.le_refl _) _⟩)
  clear hv
  go_enter Tryz.func113, Tryz.ntmps113
  go_wp2
  go_loopw [4, 5] (fun v4 v5 wx => ∃ (j : Nat) (p : List Piece) (A : Option Addr) (c : Nat), v4 = .slice A p.length c ∧ v5 = .int .i64 j ∧ Hid (j ≤ b.length ∧ p.length ≤ j ∧ pathIs b = (pathIs (b.drop j)).map fun l => p ++ l) ∧ Hid (OwnSegsF 117 w.heap.size w.heap.size wx (.slice A p.length c) p ∧ Below w.heap.size w wx)) (fun _ v5 _ => b.length - (intOf v5).toNat)
  case atStart => exact ⟨0, [], some ⟨w.heap.size, 0, none⟩, 0, rfl, rfl, Go.Lib.hid ⟨Nat.zero_le _, Nat.zero_le _, by simp⟩, ST0⟩
  case round =>
    obtain ⟨j, p, A, c, rfl, rfl, HI, ST⟩ := hrel
    have hj := HI.out.1
    have hpj := HI.out.2.1
    by_cases hlt : j < b.length
    · have z1 : (j : Int) < (b.length : Int) := by omega
      by_cases h2 : j + 2 ≤ b.length
      · have z2 : decide ((b.length : Int) < (j : Int) + 2) = false := decide_eq_false (by omega)
        obtain ⟨blk, off, a, k, rfl, hbl, ha, ha8, ca0, hk, hk8, ck0⟩ := two_at HU.out (k := j) (by omega)
        have CK := Go.Lib.hid (fun (W : World) (h : Below w.heap.size w W) => And.intro (keeps h ca0) (keeps h ck0))
        clear ca0 ck0
        obtain ⟨ca, ck⟩ := CK.out _ ST.out.2
        have HD := Go.Lib.hid (drop_two ha hk)
        have HRL := Go.Lib.hid (show (b.drop (j + 2)).length = b.length - (j + 2) by rw [List.length_drop])
        have z3 : (0 : Int) ≤ (j : Int) + 1 := by omega
        have z4 : (j : Int) + 1 < (b.length : Int) := by omega
        have z5 : (0 : Int) ≤ (j : Int) := by omega
        clear ha hk
        by_cases a0 : a = 0
        · subst a0
          go_wp2
          go_ret2
          refine ⟨ST.out.2, ?_⟩
          rw [HI.out.2.2, HD.out, pathIs_step, if_neg (by first | omega | (rw [HRL.out]; omega))]
          rfl
        by_cases a3 : 2 < a
        · have y1 : decide ((a : Int) < 1) = false := decide_eq_false (by omega)
          have y2 : (a : Int) > 2 := by omega
          go_wp2
          go_ret2
          refine ⟨ST.out.2, ?_⟩
          rw [HI.out.2.2, HD.out, pathIs_step, if_neg (by first | omega | (rw [HRL.out]; omega))]
          rfl
        have y1 : decide ((a : Int) < 1) = false := decide_eq_false (by omega)
        have y2 : decide ((2 : Int) < (a : Int)) = false := decide_eq_false (by omega)
        by_cases k0 : k = 0
        · subst k0
          go_wp2
          go_ret2
          refine ⟨ST.out.2, ?_⟩
          rw [HI.out.2.2, HD.out, pathIs_step, if_neg (by first | omega | (rw [HRL.out]; omega))]
          rfl
        have y3 : ((k : Int) == 0) = false := by simp; omega
        by_cases k4 : j + 2 + 4 * k ≤ b.length
        · have y4 : decide ((b.length : Int) < (j : Int) + 2 + 4 * (k : Int)) = false := decide_eq_false (by omega)
          obtain ⟨W0, rfl⟩ : ∃ W0, W0 = wr := ⟨_, rfl⟩
          have hps := HI.out.2.1
          go_wp2
          go_loopw [7] (fun v7 wx => ∃ (i : Nat) (An : Option Addr) (cn : Nat), i ≤ k ∧ v7 = .int .i64 i ∧ Hid (InSt W0 (a : Int) An cn i (quadsN (b.drop (j + 2)) i) wx)) (fun v7 _ => k - (intOf v7).toNat)
          case atStart => exact ⟨0, none, 0, Nat.zero_le _, rfl, Go.Lib.hid (InSt.start W0 a)⟩
          case round =>
            obtain ⟨i, An, cn, hi, rfl, IS⟩ := hrel
            clear ca ck
            have HB := Go.Lib.hid (ST.out.2.trans (IS.out.low.mono ST.out.2.size))
            obtain ⟨ca, ck⟩ := CK.out _ HB.out
            obtain ⟨s0, s1⟩ := cell0 IS.out.blk
            obtain ⟨f0, f1⟩ := free0 IS.out.blk
            by_cases hik : i < k
            · have z6 : (i : Int) < (k : Int) := by omega
              obtain ⟨t, ht⟩ : ∃ t, t = j + 2 + 4 * i := ⟨_, rfl⟩
              obtain ⟨t4, ht4⟩ : ∃ t4, t4 = t + 4 := ⟨_, rfl⟩
              have HM := Go.Lib.hid (show U8s wr.drew (.slice (some ⟨blk, off + t, none⟩) (t4 - t) (cb - t)) ((b.drop t).take 4) by
                have h := mid8 ((HU.out.keep HB.out).keep (Below.refl _ _).drew) (i := t) (by omega)
                rw [ht4, show t + 4 - t = 4 by omega]
                exact h)
              have HQ := Go.Lib.hid (show quadsN (b.drop (j + 2)) (i + 1) = quadsN (b.drop (j + 2)) i ++ [val ((b.drop t).take 4)] by rw [quadsN_succ, List.drop_drop, ht])
              have z7 : (0 : Int) ≤ (t : Int) := by omega
              have z8 : (t4 : Int) ≤ (b.length : Int) := by omega
              have z9 : (t4 : Int) ≤ (cb : Int) := by omega
              have z10 : ¬ cb = t := by omega
              have z11 : (0 : Int) ≤ (t4 : Int) := by omega
              have z12 : (t : Int) ≤ (t4 : Int) := by omega
              have e1 := wrap_sum2 (j := j) (i := i) (t := t) (by omega) (by omega)
              have e2 := wrap_sum6 (j := j) (i := i) (t := t) (by omega) (by omega) ht4
              clear ht4
              clear ht
              replace IS := Go.Lib.hid (IS.out.below (Below.refl _ _).drew)
              clear s0 s1 f0 f1
              obtain ⟨s0, s1⟩ := cell0 IS.out.blk
              obtain ⟨f0, f1⟩ := free0 IS.out.blk
              go_wp2
              refine wp_region_held_drew (S := fun _ => True) (by kernel_rfl) trivial (fun hHeld1 => ?_)
              refine Take.tk 0 71 hHeld1 ?_
              refine Take.tk 2 73 hHeld1 ?_
              refine Take.tk 3 74 hHeld1 ?_
              try simp only [Act.put, List.setIfInBounds_toArray, List.set_cons_zero, List.set_cons_succ]
              refine Take.tk 4 75 hHeld1 ?_
              refine Take.tk 5 76 hHeld1 ?_
              refine Take.tk 6 77 hHeld1 ?_
              try simp only [Act.put, List.setIfInBounds_toArray, List.set_cons_zero, List.set_cons_succ]
              refine Take.tk 7 78 hHeld1 ?_
              refine Take.tk 8 79 hHeld1 ?_
              refine Take.tk 9 80 hHeld1 ?_
              try simp only [Act.put, List.setIfInBounds_toArray, List.set_cons_zero, List.set_cons_succ]
              refine Take.tk 10 81 hHeld1 ?_
              refine Take.tk 11 82 hHeld1 ?_
              refine Take.tk 12 83 hHeld1 ?_
              try simp only [Act.put, List.setIfInBounds_toArray, List.set_cons_zero, List.set_cons_succ]
              refine Take.tk 13 84 hHeld1 ?_
              refine wpAnyH_ready (rs := [1, 14]) (by kernel_rfl) (by simp) ?_
              refine AllReadyH.cons (o := ⟨some 72, .load 25 (.tmp 71), 25, "ref.go:136", #[⟨0, .data⟩], none⟩) rfl (fun K hK => ?_) (AllReadyH.cons (o := ⟨some 85, .call { callee := .value (.func 50), args := #[.tmp 84], argTypes := #[31] }, 24, "ref.go:136", #[⟨13, .data⟩], none⟩) rfl (fun K hK => ?_) AllReadyH.nil)
              · go_simp
                refine hK.out _ _ trivial (fun hHeld2 => ?_)
                clear hK K
                try simp only [Act.put, List.setIfInBounds_toArray, List.set_cons_zero, List.set_cons_succ]
                refine wpAnyH_ready (rs := [14]) (by kernel_rfl) (by simp) ?_
                refine AllReadyH.cons (o := ⟨some 85, .call { callee := .value (.func 50), args := #[.tmp 84], argTypes := #[31] }, 24, "ref.go:136", #[⟨13, .data⟩], none⟩) rfl (fun K hK => ?_) AllReadyH.nil
                go_simp
                go_at_call 50
                refine (CN.out _ t _ HM.out).mono ?_
                rintro e x ⟨rfl, hx⟩
                replace IS := Go.Lib.hid (IS.out.below hx)
                clear hx s0 s1 f0 f1
                obtain ⟨s0, s1⟩ := cell0 IS.out.blk
                (try go_wp2_with fail)
                refine hK.out _ _ trivial (fun hHeld3 => ?_)
                clear hK K
                try simp only [Act.put, List.setIfInBounds_toArray, List.set_cons_zero, List.set_cons_succ]
                refine wpAnyH_ready (rs := [15]) (by kernel_rfl) (by simp) ?_
                refine AllReadyH.cons (o := ⟨some 86, .buildSlice 25 1 #[(0, .tmp 85)], 25, "ref.go:136", #[⟨14, .data⟩], none⟩) rfl (fun K hK => ?_) AllReadyH.nil
                go_simp
                refine hK.out _ _ trivial (fun hHeld4 => ?_)
                clear hK K
                try simp only [Act.put, List.setIfInBounds_toArray, List.set_cons_zero, List.set_cons_succ]
                have b9 := (Below.refl x.heap.size x).alloc (Nat.le_refl _) (.cells #[.int .u32 (val ((b.drop t).take 4) : Nat)] 24)
                replace s1 := keeps b9 s1
                refine wpAnyH_ready (rs := [16]) (by kernel_rfl) (by simp) ?_
                refine AllReadyH.cons (o := ⟨some 87, .call { callee := .builtin .append, args := #[.tmp 72, .tmp 86], argTypes := #[25, 25] }, 25, "ref.go:136", #[⟨1, .data⟩, ⟨15, .data⟩, ⟨14, .chain⟩], none⟩) rfl (fun K hK => ?_) AllReadyH.nil
                refine step_append_row (by rfl) (.tmp 72) (.tmp 86) (by rfl) E3 (W0.heap.size + 1) (.slice An i cn) i ((quadsN (b.drop (j + 2)) i).map fun n : Nat => Value.int .u32 n) (by rfl) ?_ _ 1 [.int .u32 (val ((b.drop t).take 4) : Nat)] (by rfl) ?_ (one_u32 _) ?_ ?_ ?_ (i + 1) (by rfl) ?_
                · exact own_keep IS.out.own b9
                · exact Row.one _ _ _
                · unfold maxLen; omega
                · omega
                · have := IS.out.lt; simp; omega
                intro A4 c4 w8 hown4 hg4 hat4 hb4
                have IS8 := Go.Lib.hid (IS.out.push hb4 hown4)
                have B8 := Go.Lib.hid (IS.out.blk8 hb4)
                clear hown4 hg4 hat4 hb4 s0 s1
                obtain ⟨s0, s1⟩ := cell0 B8.out
                obtain ⟨f0, f1⟩ := free0 B8.out
                refine hK.out _ _ trivial (fun hHeld6 => ?_)
                clear hK K
                try simp only [Act.put, List.setIfInBounds_toArray, List.set_cons_zero, List.set_cons_succ]
                refine Take.tk 17 88 hHeld6 ?_
                refine wpAnyH_ready (rs := [18]) (by kernel_rfl) (by simp) ?_
                refine AllReadyH.cons (o := ⟨none, .store 25 (.tmp 88) (.tmp 87), 0, "ref.go:136", #[⟨17, .data⟩, ⟨16, .data⟩, ⟨16, .chain⟩, ⟨0, .phase⟩, ⟨1, .phase⟩, ⟨2, .phase⟩, ⟨3, .phase⟩, ⟨4, .phase⟩, ⟨5, .phase⟩, ⟨6, .phase⟩, ⟨7, .phase⟩, ⟨8, .phase⟩, ⟨9, .phase⟩, ⟨10, .phase⟩, ⟨11, .phase⟩, ⟨12, .phase⟩, ⟨13, .phase⟩, ⟨14, .phase⟩, ⟨15, .phase⟩, ⟨16, .phase⟩], none⟩) rfl (fun K hK => ?_) AllReadyH.nil
                go_simp
                refine hK.out _ _ trivial (fun hHeld7 => ?_)
                clear hK K
                try simp only [Act.put, List.setIfInBounds_toArray, List.set_cons_zero, List.set_cons_succ]
                refine wpAnyH_done (by kernel_rfl) ?_ _
                go_wp2
                go_roundw
                case rel => exact ⟨i + 1, A4, c4, by omega, by go_num, Go.Lib.hid (by rw [HQ.out]; exact IS8.out)⟩
                case measure => simp [intOf]; omega
              · go_simp
                go_at_call 50
                refine (CN.out _ t _ HM.out).mono ?_
                rintro e x ⟨rfl, hx⟩
                replace IS := Go.Lib.hid (IS.out.below hx)
                clear hx s0 s1 f0 f1
                obtain ⟨s0, s1⟩ := cell0 IS.out.blk
                (try go_wp2_with fail)
                refine hK.out _ _ trivial (fun hHeld8 => ?_)
                clear hK K
                try simp only [Act.put, List.setIfInBounds_toArray, List.set_cons_zero, List.set_cons_succ]
                refine wpAnyH_ready (rs := [1, 15]) (by kernel_rfl) (by simp) ?_
                refine AllReadyH.cons (o := ⟨some 72, .load 25 (.tmp 71), 25, "ref.go:136", #[⟨0, .data⟩], none⟩) rfl (fun K hK => ?_) (AllReadyH.cons (o := ⟨some 86, .buildSlice 25 1 #[(0, .tmp 85)], 25, "ref.go:136", #[⟨14, .data⟩], none⟩) rfl (fun K hK => ?_) AllReadyH.nil)
                · go_simp
                  refine hK.out _ _ trivial (fun hHeld9 => ?_)
                  clear hK K
                  try simp only [Act.put, List.setIfInBounds_toArray, List.set_cons_zero, List.set_cons_succ]
                  refine wpAnyH_ready (rs := [15]) (by kernel_rfl) (by simp) ?_
                  refine AllReadyH.cons (o := ⟨some 86, .buildSlice 25 1 #[(0, .tmp 85)], 25, "ref.go:136", #[⟨14, .data⟩], none⟩) rfl (fun K hK => ?_) AllReadyH.nil
                  go_simp
                  refine hK.out _ _ trivial (fun hHeld10 => ?_)
                  clear hK K
                  try simp only [Act.put, List.setIfInBounds_toArray, List.set_cons_zero, List.set_cons_succ]
                  have b9 := (Below.refl x.heap.size x).alloc (Nat.le_refl _) (.cells #[.int .u32 (val ((b.drop t).take 4) : Nat)] 24)
                  replace s1 := keeps b9 s1
                  refine wpAnyH_ready (rs := [16]) (by kernel_rfl) (by simp) ?_
                  refine AllReadyH.cons (o := ⟨some 87, .call { callee := .builtin .append, args := #[.tmp 72, .tmp 86], argTypes := #[25, 25] }, 25, "ref.go:136", #[⟨1, .data⟩, ⟨15, .data⟩, ⟨14, .chain⟩], none⟩) rfl (fun K hK => ?_) AllReadyH.nil
                  refine step_append_row (by rfl) (.tmp 72) (.tmp 86) (by rfl) E3 (W0.heap.size + 1) (.slice An i cn) i ((quadsN (b.drop (j + 2)) i).map fun n : Nat => Value.int .u32 n) (by rfl) ?_ _ 1 [.int .u32 (val ((b.drop t).take 4) : Nat)] (by rfl) ?_ (one_u32 _) ?_ ?_ ?_ (i + 1) (by rfl) ?_
                  · exact own_keep IS.out.own b9
                  · exact Row.one _ _ _
                  · unfold maxLen; omega
                  · omega
                  · have := IS.out.lt; simp; omega
                  intro A4 c4 w8 hown4 hg4 hat4 hb4
                  have IS8 := Go.Lib.hid (IS.out.push hb4 hown4)
                  have B8 := Go.Lib.hid (IS.out.blk8 hb4)
                  clear hown4 hg4 hat4 hb4 s0 s1
                  obtain ⟨s0, s1⟩ := cell0 B8.out
                  obtain ⟨f0, f1⟩ := free0 B8.out
                  refine hK.out _ _ trivial (fun hHeld12 => ?_)
                  clear hK K
                  try simp only [Act.put, List.setIfInBounds_toArray, List.set_cons_zero, List.set_cons_succ]
                  refine Take.tk 17 88 hHeld12 ?_
                  refine wpAnyH_ready (rs := [18]) (by kernel_rfl) (by simp) ?_
                  refine AllReadyH.cons (o := ⟨none, .store 25 (.tmp 88) (.tmp 87), 0, "ref.go:136", #[⟨17, .data⟩, ⟨16, .data⟩, ⟨16, .chain⟩, ⟨0, .phase⟩, ⟨1, .phase⟩, ⟨2, .phase⟩, ⟨3, .phase⟩, ⟨4, .phase⟩, ⟨5, .phase⟩, ⟨6, .phase⟩, ⟨7, .phase⟩, ⟨8, .phase⟩, ⟨9, .phase⟩, ⟨10, .phase⟩, ⟨11, .phase⟩, ⟨12, .phase⟩, ⟨13, .phase⟩, ⟨14, .phase⟩, ⟨15, .phase⟩, ⟨16, .phase⟩], none⟩) rfl (fun K hK => ?_) AllReadyH.nil
                  go_simp
                  refine hK.out _ _ trivial (fun hHeld13 => ?_)
                  clear hK K
                  try simp only [Act.put, List.setIfInBounds_toArray, List.set_cons_zero, List.set_cons_succ]
                  refine wpAnyH_done (by kernel_rfl) ?_ _
                  go_wp2
                  go_roundw
                  case rel => exact ⟨i + 1, A4, c4, by omega, by go_num, Go.Lib.hid (by rw [HQ.out]; exact IS8.out)⟩
                  case measure => simp [intOf]; omega
                · go_simp
                  refine hK.out _ _ trivial (fun hHeld14 => ?_)
                  clear hK K
                  try simp only [Act.put, List.setIfInBounds_toArray, List.set_cons_zero, List.set_cons_succ]
                  have b9 := (Below.refl x.heap.size x).alloc (Nat.le_refl _) (.cells #[.int .u32 (val ((b.drop t).take 4) : Nat)] 24)
                  replace s1 := keeps b9 s1
                  refine wpAnyH_ready (rs := [1]) (by kernel_rfl) (by simp) ?_
                  refine AllReadyH.cons (o := ⟨some 72, .load 25 (.tmp 71), 25, "ref.go:136", #[⟨0, .data⟩], none⟩) rfl (fun K hK => ?_) AllReadyH.nil
                  go_simp
                  refine hK.out _ _ trivial (fun hHeld15 => ?_)
                  clear hK K
                  try simp only [Act.put, List.setIfInBounds_toArray, List.set_cons_zero, List.set_cons_succ]
                  refine wpAnyH_ready (rs := [16]) (by kernel_rfl) (by simp) ?_
                  refine AllReadyH.cons (o := ⟨some 87, .call { callee := .builtin .append, args := #[.tmp 72, .tmp 86], argTypes := #[25, 25] }, 25, "ref.go:136", #[⟨1, .data⟩, ⟨15, .data⟩, ⟨14, .chain⟩], none⟩) rfl (fun K hK => ?_) AllReadyH.nil
                  refine step_append_row (by rfl) (.tmp 72) (.tmp 86) (by rfl) E3 (W0.heap.size + 1) (.slice An i cn) i ((quadsN (b.drop (j + 2)) i).map fun n : Nat => Value.int .u32 n) (by rfl) ?_ _ 1 [.int .u32 (val ((b.drop t).take 4) : Nat)] (by rfl) ?_ (one_u32 _) ?_ ?_ ?_ (i + 1) (by rfl) ?_
                  · exact own_keep IS.out.own b9
                  · exact Row.one _ _ _
                  · unfold maxLen; omega
                  · omega
                  · have := IS.out.lt; simp; omega
                  intro A4 c4 w8 hown4 hg4 hat4 hb4
                  have IS8 := Go.Lib.hid (IS.out.push hb4 hown4)
                  have B8 := Go.Lib.hid (IS.out.blk8 hb4)
                  clear hown4 hg4 hat4 hb4 s0 s1
                  obtain ⟨s0, s1⟩ := cell0 B8.out
                  obtain ⟨f0, f1⟩ := free0 B8.out
                  refine hK.out _ _ trivial (fun hHeld17 => ?_)
                  clear hK K
                  try simp only [Act.put, List.setIfInBounds_toArray, List.set_cons_zero, List.set_cons_succ]
                  refine Take.tk 17 88 hHeld17 ?_
                  refine wpAnyH_ready (rs := [18]) (by kernel_rfl) (by simp) ?_
                  refine AllReadyH.cons (o := ⟨none, .store 25 (.tmp 88) (.tmp 87), 0, "ref.go:136", #[⟨17, .data⟩, ⟨16, .data⟩, ⟨16, .chain⟩, ⟨0, .phase⟩, ⟨1, .phase⟩, ⟨2, .phase⟩, ⟨3, .phase⟩, ⟨4, .phase⟩, ⟨5, .phase⟩, ⟨6, .phase⟩, ⟨7, .phase⟩, ⟨8, .phase⟩, ⟨9, .phase⟩, ⟨10, .phase⟩, ⟨11, .phase⟩, ⟨12, .phase⟩, ⟨13, .phase⟩, ⟨14, .phase⟩, ⟨15, .phase⟩, ⟨16, .phase⟩], none⟩) rfl (fun K hK => ?_) AllReadyH.nil
                  go_simp
                  refine hK.out _ _ trivial (fun hHeld18 => ?_)
                  clear hK K
                  try simp only [Act.put, List.setIfInBounds_toArray, List.set_cons_zero, List.set_cons_succ]
                  refine wpAnyH_done (by kernel_rfl) ?_ _
                  go_wp2
                  go_roundw
                  case rel => exact ⟨i + 1, A4, c4, by omega, by go_num, Go.Lib.hid (by rw [HQ.out]; exact IS8.out)⟩
                  case measure => simp [intOf]; omega
            · have hik2 : k = i := by omega
              subst hik2
              have z6 : decide ((k : Int) < (k : Int)) = false := decide_eq_false (by omega)
              have HN := Go.Lib.hid (fresh_apart ST.out.1 ST.out.2.size (own_new IS.out.own (by omega)))
              have HX := Go.Lib.hid (U32s.of_own (l := quadsN (b.drop (j + 2)) k) (by rw [quadsN_len]; exact IS.out.own) (quads_lt (HU.out.2.drop _) _))
              obtain ⟨q, o1, o2, o3, o4⟩ := ST.out.1.keep IS.out.low
              have O2 := Go.Lib.hid (And.intro o2 (And.intro o3 o4))
              clear o2 o3 o4
              go_wp2_with (at_builtin; first | (refine wpList_append_row rfl (.tmp 89) (.tmp 91) rfl E w.heap.size _ p.length (segCells p q) rfl (o1.alloc _) _ 1 [.int .i64 a, .slice An k cn] rfl (row_seg_at _ _ _ _ rfl) (ones_two _ _ _ _) (by unfold maxLen; omega) (by omega) (by have := HB.out.size; simp; omega) (p.length + 1) rfl ?_; intro A2 c2 w2 hown2 hg2 hat2 hb2; have S6 := Go.Lib.hid (segs_push (l := quadsN (b.drop (j + 2)) k) O2.out.1 O2.out.2.2 O2.out.2.1 HX.out HN.out rfl hown2 hg2 hat2); have HB6 := Go.Lib.hid ((HB.out.alloc HB.out.size _).trans hb2); clear o1 hown2 hg2 hat2 hb2 ca ck s0 s1 f0 f1; obtain ⟨ca, ck⟩ := CK.out _ HB6.out) | (trace "FELL A"; trace_state; fail_if_success skip))
              go_roundw
              case rel =>
                refine ⟨j + 2 + 4 * k, p ++ [((a : Int), quadsN (b.drop (j + 2)) k)], A2, c2, by rw [List.length_append]; rfl, by go_num, Go.Lib.hid ⟨k4, by rw [List.length_append]; simp; omega, ?_⟩, Go.Lib.hid ⟨by rw [List.length_append]; exact S6.out, HB6.out⟩⟩
                rw [HI.out.2.2, HD.out, pathIs_step, if_pos ⟨by omega, k0, by rw [HRL.out]; omega⟩, List.drop_drop]
                cases pathIs (b.drop (j + 2 + 4 * k)) <;> simp
              case measure => simp [intOf]; omega
        · have y4 : (j : Int) + 2 + 4 * (k : Int) > (b.length : Int) := by omega
          go_wp2
          go_ret2
          refine ⟨ST.out.2, ?_⟩
          rw [HI.out.2.2, HD.out, pathIs_step, if_neg (by first | omega | (rw [HRL.out]; omega))]
          rfl
      · have z2 : (j : Int) + 2 > (b.length : Int) := by omega
        go_wp2
        go_ret2
        refine ⟨ST.out.2, ?_⟩
        obtain ⟨x, hx⟩ := drop_one (b := b) (j := j) (by exact hlt) (by omega)
        rw [HI.out.2.2, hx, pathIs_one]
        rfl
    · have hjL : j = b.length := by omega
      have z1 : decide ((j : Int) < (j : Int)) = false := by simp
      go_wp2
      go_ret2
      refine ⟨ST.out.2, ?_⟩
      rw [HI.out.2.2, List.drop_of_length_le (by omega), pathIs_nil]
      show ∃ v, Ending.returned (.tuple #[.slice A p.length c, .bool true]) = .returned (.tuple #[v, .bool true]) ∧ OwnSegsF 117 w.heap.size w.heap.size wr v (p ++ [])
      rw [List.append_nil]
      exact ⟨_, rfl, ST.out.1⟩
end Go.Proofs.YtlhdjdnflpilbaaGreatDoor.Att
