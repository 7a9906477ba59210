/- The program's Path: the pieces of a path's bytes. What stands while an attribute's value is read: the attributes' box, the item's own, and the reader. The program's fill: an attribute's value, laid among the others. -/
import Derived.Test.YtlhdjdnflpilbaaGreatDoorG41
import Derived.Test.YtlhdjdnflpilbaaGreatDoorG12
import Derived.Test.YtlhdjdnflpilbaaGreatDoorG23
namespace Go.Proofs.YtlhdjdnflpilbaaGreatDoor.Att
open Go.RowKit Mem Segm Oct Seg
theorem pathOf_fuel : ∀ (n m : Nat) (b : List Nat), b.length ≤ n → b.length ≤ m → pathOf n b = pathOf m b
  | 0, 0, _, _, _ => rfl
  | 0, m + 1, b, h, _ => by
    obtain rfl : b = [] := List.eq_nil_of_length_eq_zero (by omega)
    rfl
  | n + 1, 0, b, _, h => by
    obtain rfl : b = [] := List.eq_nil_of_length_eq_zero (by omega)
    rfl
  | n + 1, m + 1, b, hn, hm => by
    match b, hn, hm with
    | [], _, _ => rfl
    | [_], _, _ => rfl
    | k :: c :: r, hn, hm =>
      simp only [List.length_cons] at hn hm
      unfold pathOf
      dsimp only
      rw [pathOf_fuel n m (r.drop (4 * c)) (by rw [List.length_drop]; omega) (by rw [List.length_drop]; omega)]
theorem pathIs_step (k c : Nat) (r : List Nat) : pathIs (k :: c :: r) = if (k = 1 ∨ k = 2) ∧ c ≠ 0 ∧ 4 * c ≤ r.length then (pathIs (r.drop (4 * c))).map fun l => ((k : Int), quadsN r c) :: l else none := by
  unfold pathIs
  have h : pathOf (r.length + 1 + 1) (k :: c :: r) = if (k = 1 ∨ k = 2) ∧ c ≠ 0 ∧ 4 * c ≤ r.length then (pathOf (r.length + 1) (r.drop (4 * c))).map fun l => ((k : Int), quadsN r c) :: l else none := rfl
  rw [show (k :: c :: r).length = r.length + 1 + 1 from rfl, h, pathOf_fuel (r.length + 1) (r.drop (4 * c)).length (r.drop (4 * c)) (by rw [List.length_drop]; omega) (Nat.le_refl _)]
theorem pathIs_nil : pathIs [] = some [] := rfl
theorem pathIs_one (a : Nat) : pathIs [a] = none := rfl
theorem path_round (a : Nat) (m : List Nat) : ∀ c x y, c = (Rd.mk m false).num 1 → x = (Rd.mk m false).go 1 → y = leftN x.l x.b c →
    ((y.2 = false ∧ (a = 1 ∨ a = 2) ∧ c ≠ 0 → pathIs (a :: m) = (pathIs y.1).map (fun l => ((a : Int), tookN x.l x.b c) :: l) ∧ y.1.length < m.length) ∧ (¬ (y.2 = false ∧ (a = 1 ∨ a = 2) ∧ c ≠ 0) → pathIs (a :: m) = none)) := by
  rintro c x y rfl rfl rfl
  match m with
  | [] =>
    have h : (leftN ((Rd.mk [] false).go 1).l ((Rd.mk [] false).go 1).b ((Rd.mk [] false).num 1)).2 = true := by
      rw [show ((Rd.mk [] false).go 1).b = true from (go_short (by decide)).1]
      exact left_bad _
    exact ⟨fun hh => absurd (h.symm.trans hh.1) (by decide), fun _ => rfl⟩
  | c :: r =>
    obtain ⟨h1, h2⟩ := head_go c r
    rw [h1, h2]
    dsimp only
    rw [pathIs_step]
    by_cases hc : 4 * c ≤ r.length
    · obtain ⟨h3, h4⟩ := took_good (l := r) c hc
      rw [h3, h4]
      refine ⟨fun hh => ?_, fun hh => ?_⟩
      · rw [if_pos ⟨hh.2.1, hh.2.2, hc⟩]
        refine ⟨rfl, ?_⟩
        rw [List.length_drop, List.length_cons]; omega
      · rw [if_neg (fun q => hh ⟨rfl, q.1, q.2.1⟩)]
    · have h3 := took_bad (l := r) c (by omega)
      rw [h3]
      exact ⟨fun hh => absurd hh.1 (by decide), fun _ => by rw [if_neg (fun q => hc q.2.2)]⟩
theorem segs_on {F : Nat → Prop} {W W' : World} {t : TypeId} {n : Nat} {v : Value} {p : List Piece} (h : OwnSegsF t n n W v p) (ho : Only F W W') (hF : ∀ k, F k → k < n) : OwnSegsF t n n W' v p := by
  obtain ⟨q, h1, h2, h3, h4⟩ := h
  refine ⟨q, ?_, h2.map fun x l hx hu => ?_, h3, h4⟩
  · obtain ⟨k1, k2⟩ := h1
    refine ⟨k1, ?_⟩
    rcases k2 with k2 | ⟨g, cap, cur, hv, hg, hh, r⟩
    · exact .inl k2
    · refine .inr ⟨g, cap, cur, hv, hg, (ho.block g ?_ (fun hf => by have := hF g hf; omega)).trans hh, r⟩
      exact (Array.getElem?_eq_some_iff.1 hh).1
  · obtain ⟨⟨hl, A, c, rfl, hn, hc, hr⟩, hsm⟩ := hu
    refine ⟨⟨hl, A, c, rfl, hn, hc, fun h0 => ?_⟩, hsm⟩
    obtain ⟨b, off, rfl, hlt, hcell⟩ := hr h0
    have hb := h4 _ hx b off _ c rfl h0
    have hs := ho.block b hlt (fun hf => by have := hF b hf; omega)
    exact ⟨b, off, rfl, Nat.lt_of_lt_of_le hlt ho.size, fun i y hy => by rw [← hcell i y hy]; exact World.cell?_of_block hs⟩
theorem segs_push {W W2 : World} {base fb L c c2 : Nat} {A A2 : Option Addr} {p : List Piece} {q : List Value} {k : Int} {x : Value} {l : List Nat} (hq : Nums32 W p q) (hf : FreshQ fb q) (ha : Apart (.slice A L c) q) (hx : U32s W x l)
    (hxf : ∀ b off m c', x = .slice (some ⟨b, off, none⟩) m c' → 0 < m → fb ≤ b ∧ (Value.slice A L c).ownBlock ≠ some b) (hL : L = p.length)
    (hown : W2.ownsRow base 117 2 (.slice A2 (L + 1) c2) (L + 1) (segCells p q ++ [.int .i64 k, x]))
    (hg : (W.alloc (.cells #[.int .i64 k, x] 117)).grownBy W2 (Value.slice A L c).ownBlock)
    (hat : (Value.slice A2 (L + 1) c2).ownBlock = (Value.slice A L c).ownBlock ∨ (Value.slice A2 (L + 1) c2).ownBlock = some (W.alloc (.cells #[.int .i64 k, x] 117)).heap.size) :
    OwnSegsF 117 base fb W2 (.slice A2 (L + 1) c2) (p ++ [(k, l)]) := by
  obtain ⟨k1, k2, k3⟩ := segs_grownQ (p2 := [(k, l)]) (q2 := [x]) ((Below.refl _ _).alloc (Nat.le_refl _) _) hq ha (Nums32.one hx) (Apart.one fun b off m c' e h0 => (hxf b off m c' e h0).2) hg hat (by simp) (by rw [hL]; rfl) hown
  exact ⟨_, k1, k2, k3, hf.append (FreshQ.one fun b off m c' e h0 => (hxf b off m c' e h0).1)⟩
theorem own_fresh {W : World} {base n size : Nat} {e : TypeId} {v : Value} {m : Nat} {xs : List Value} (h : W.ownsRow base e size v m xs) (hn : W.heap.size ≤ n) {b : Nat} (hb : n ≤ b) : v.ownBlock ≠ some b := fun hv => by
  have := (h.lt b hv).2
  omega
theorem fresh_apart {W : World} {N : Nat} {u x : Value} {p : List Piece} (h : OwnSegsF 117 N N W u p) (hN : N ≤ W.heap.size) (hn : NewAt W.heap.size x) : ∀ b off m c', x = .slice (some ⟨b, off, none⟩) m c' → 0 < m → N ≤ b ∧ u.ownBlock ≠ some b := fun b off m c' e h0 => by
  have hb := hn b off m c' e h0
  obtain ⟨q, h1, -⟩ := h
  exact ⟨Nat.le_trans hN hb, own_fresh h1 (Nat.le_refl _) hb⟩
def PathF (b : List Nat) (w : World) (e : Ending) (w' : World) : Prop :=
  Below w.heap.size w w' ∧ match pathIs b with
    | some p => ∃ v, e = .returned (.tuple #[v, .bool true]) ∧ OwnSegsF 117 w.heap.size w.heap.size w' v p
    | none => e = .returned (.tuple #[.slice none 0 0, .bool false])
def slen : Value → Nat
  | .slice _ n _ => n
  | _ => 0
structure PtSt (w0 : World) (N B : Nat) (x : Rd) (u : Value) (p : List Piece) (W : World) : Prop where
  rd : R W w0.heap.size N (.pointer (some ⟨B, 0, none⟩)) x.l x.b (fun k => k = B)
  own : OwnSegsF 117 N N W u p
  low : Below w0.heap.size w0 W
  n : N ≤ W.heap.size ∧ w0.heap.size ≤ N
section
variable {w0 W W2 : World} {N B : Nat} {x y : Rd} {u : Value} {p : List Piece}
theorem PtSt.read (h : PtSt w0 N B x u p W) (hr : R W2 w0.heap.size N (.pointer (some ⟨B, 0, none⟩)) y.l y.b (fun k => k = B)) (ho : Only (fun k => k = B) W W2) : PtSt w0 N B y u p W2 := by
  have hB := h.rd.low B rfl
  exact ⟨hr, segs_on h.own ho (fun k e => by subst e; exact hB.2), h.low.trans (ho.below (fun k e => by subst e; exact hB.1) h.low.size), Nat.le_trans h.n.1 ho.size, h.n.2⟩
theorem PtSt.below (h : PtSt w0 N B x u p W) (hb : Below W.heap.size W W2) : PtSt w0 N B x u p W2 :=
  ⟨h.rd.below hb, h.own.keep hb, h.low.trans (hb.mono h.low.size), Nat.le_trans h.n.1 hb.size, h.n.2⟩
end
set_option maxRecDepth 100000 in
set_option maxHeartbeats 8000000 in
theorem path_any (v : Value) (b : List Nat) (w : World) (hv : U8s w v b) (hl : b.length ≤ 100000) : Calls Tryz.prog 116 #[v] w (PathF b w) := by
  obtain ⟨ie, E⟩ := elemSeg
  have CN := Go.Lib.hid (new_any v b w hv (by omega))
  have HS := Go.Lib.hid hv.2
  have HL := Go.Lib.hid hl
  clear hv hl
  go_enter Tryz.func116, Tryz.ntmps116
  go_wp2_with (go_at_call 40; refine (CN.out).mono ?_; rintro e w1 ⟨B, rfl, hR, hb⟩; have ST0 := Go.Lib.hid (show PtSt w w1.heap.size B ⟨b, false⟩ (.slice none 0 0) [] w1 from ⟨hR, nil_segsF _ _ _, hb, Nat.le_refl _, hb.size⟩); clear hR hb)
  obtain ⟨N, hN⟩ : ∃ N, N = w1.heap.size := ⟨_, rfl⟩
  rw [← hN] at ST0
  clear hN
  go_loopw [4] (fun v4 wx => ∃ (m : List Nat) (p : List Piece) (A : Option Addr) (c : Nat), v4 = .slice A p.length c ∧ Hid (Small m ∧ p.length + m.length ≤ b.length ∧ pathIs b = (pathIs m).map fun l => p ++ l) ∧ Hid (PtSt w N B ⟨m, false⟩ (.slice A p.length c) p wx)) (fun v4 _ => b.length - slen v4)
  case atStart => exact ⟨b, [], none, 0, rfl, Go.Lib.hid ⟨HS.out, by simp, by simp⟩, ST0⟩
  case round =>
    obtain ⟨m, p, A, c, rfl, HI, ST⟩ := hrel
    have CL := Go.Lib.hid (left_any _ _ _ _ _ _ wr ST.out.rd)
    dsimp only at CL
    rcases m with _ | ⟨a, m1⟩
    · have e0 : ¬ ((([] : List Nat).length : Nat) : Int) > 0 := by simp
      go_wp2_with (go_at_call 47; refine (CL.out).mono ?_; rintro e x ⟨rfl, hb⟩; replace ST := Go.Lib.hid (ST.out.below hb); clear hb)
      go_ret2
      refine ⟨ST.out.low, ?_⟩
      rw [HI.out.2.2, pathIs_nil]
      show ∃ v, Ending.returned (.tuple #[.slice A p.length c, .bool true]) = .returned (.tuple #[v, .bool true]) ∧ OwnSegsF 117 w.heap.size w.heap.size x v (p ++ [])
      rw [List.append_nil]
      exact ⟨_, rfl, ST.out.own.lower ST.out.n.2 ST.out.n.2⟩
    · have hsm := HI.out.1
      have hs1 : Small m1 := fun n hn => hsm n (by simp [hn])
      have z1 : (((a :: m1).length : Nat) : Int) > 0 := by simp only [List.length_cons]; omega
      have CU := Go.Lib.hid (fun (x : Rd) (W : World) (hs : Small x.l) (h : R W w.heap.size N (.pointer (some ⟨B, 0, none⟩)) x.l x.b (fun k => k = B)) => show Calls Tryz.prog 82 #[.pointer (some ⟨B, 0, none⟩)] W (fun e w' => e = .returned (.int .i64 (x.num 1 : Nat)) ∧ R w' w.heap.size N (.pointer (some ⟨B, 0, none⟩)) (x.go 1).l (x.go 1).b (fun k => k = B) ∧ Only (fun k => k = B) W w') from u8_any _ _ _ x.l x.b _ W hs h)
      have CU1 := Go.Lib.hid (fun W h => CU.out ⟨a :: m1, false⟩ W hsm h)
      rw [(head_go a m1).1, (head_go a m1).2] at CU1
      have CU2 := Go.Lib.hid (fun W h => CU.out ⟨m1, false⟩ W hs1 h)
      have CT := Go.Lib.hid (fun W (hn : N ≤ W.heap.size) h => take_n (.pointer (some ⟨B, 0, none⟩)) w.heap.size N ((Rd.mk m1 false).go 1).l ((Rd.mk m1 false).go 1).b (fun k => k = B) ((Rd.mk m1 false).num 1) W (Rd.small (x := ⟨m1, false⟩) hs1 1) h hn (Nat.le_trans (Nat.le_of_lt (num_lt (x := ⟨m1, false⟩) hs1 1)) (by decide)))
      have HR := Go.Lib.hid (path_round a m1 _ _ _ rfl rfl rfl)
      have HY := Go.Lib.hid (show Small (leftN ((Rd.mk m1 false).go 1).l ((Rd.mk m1 false).go 1).b ((Rd.mk m1 false).num 1)).1 ∧ (tookN ((Rd.mk m1 false).go 1).l ((Rd.mk m1 false).go 1).b ((Rd.mk m1 false).num 1)).length = (Rd.mk m1 false).num 1 from ⟨leftN_small (Rd.small (x := ⟨m1, false⟩) hs1 1) _, tookN_len _ _ _⟩)
      unfold TakeN at CT
      generalize leftN ((Rd.mk m1 false).go 1).l ((Rd.mk m1 false).go 1).b ((Rd.mk m1 false).num 1) = y at CT HR HY
      generalize tookN ((Rd.mk m1 false).go 1).l ((Rd.mk m1 false).go 1).b ((Rd.mk m1 false).num 1) = ns at CT HR HY
      generalize (Rd.mk m1 false).num 1 = k at CU2 CT HR HY
      generalize (Rd.mk m1 false).go 1 = x at CU2 CT
      clear CU hsm hs1
      obtain ⟨y, bad⟩ := y
      dsimp only at CT HR HY
      have hpl : p.length + (m1.length + 1) ≤ 100000 := Nat.le_trans HI.out.2.1 HL.out
      by_cases hok : bad = false ∧ (a = 1 ∨ a = 2) ∧ k ≠ 0
      · have HP := Go.Lib.hid (HR.out.1 hok)
        obtain ⟨rfl, ha, hk⟩ := hok
        have zk : ((k : Int) == 0) = false := by simp; omega
        rcases ha with rfl | rfl
        · go_wp2_with (first
          | (go_at_call 47; refine (CL.out).mono ?_; rintro e x1 ⟨rfl, hb⟩; have S1 := Go.Lib.hid (ST.out.below hb); clear hb ST)
          | (have h := S1.out; go_at_call 82; first | (refine (CU1.out _ h.rd).mono ?_; rintro e x2 ⟨rfl, hr, ho⟩; have S2 := Go.Lib.hid (h.read (y := ⟨m1, false⟩) hr ho); clear h hr ho S1) | (trace "FELL 1"; trace_state; fail_if_success skip))
          | (have h := S2.out; go_at_call 82; first | (refine (CU2.out _ h.rd).mono ?_; rintro e x3 ⟨rfl, hr, ho⟩; have S3 := Go.Lib.hid (h.read (y := x) hr ho); clear h hr ho S2) | (trace "FELL 2"; trace_state; fail_if_success skip))
          | (have h := S3.out; go_at_call 118; first | (refine (CT.out _ h.n.1 h.rd).mono ?_; rintro e x4 ⟨At, ct, rfl, hU, hn, hr, ho⟩; have HAP := Go.Lib.hid (fresh_apart h.own h.n.1 hn); have S4 := Go.Lib.hid (h.read (y := ⟨y, false⟩) hr ho); have HU := Go.Lib.hid hU; clear h hr ho hU hn S3) | (trace "FELL 3"; trace_state; fail_if_success skip))
          | (have h := S4.out; go_at_call 44; first | (refine (bad_any _ _ _ _ _ _ _ h.rd).mono ?_; rintro e x5 ⟨rfl, hb⟩; have S5 := Go.Lib.hid (h.below hb); replace HU := Go.Lib.hid (HU.out.keep hb); clear h hb S4) | (trace "FELL 4"; trace_state; fail_if_success skip))
          | (have h := S5.out; obtain ⟨q, o1, o2, o3, o4⟩ := h.own; at_builtin; first | (refine wpList_append_row rfl (.tmp 34) (.tmp 38) rfl E N _ p.length (segCells p q) rfl (o1.alloc _) _ 1 [.int .i64 1, .slice At k ct] rfl (row_seg_at _ _ _ _ rfl) (ones_two _ _ _ _) (by unfold maxLen; omega) (by omega) (by have := h.n.1; simp; omega) (p.length + 1) rfl ?_; intro A2 c2 w2 hown2 hg2 hat2 hb2; have S6 := Go.Lib.hid (segs_push (l := ns) o2 o4 o3 HU.out HAP.out rfl hown2 hg2 hat2); have HB6 := Go.Lib.hid hb2; clear h o1 o2 o3 o4 hown2 hg2 hat2 hb2) | (trace "FELL 5"; trace_state; fail_if_success skip)))
          go_roundw
          case rel =>
            have h := S6.out
            refine ⟨y, p ++ [((1 : Int), ns)], A2, c2, by rw [List.length_append]; rfl, Go.Lib.hid ⟨HY.out.1, ?_, ?_⟩, Go.Lib.hid ?_⟩
            · have h1 := HP.out.2
              have h2 := HI.out.2.1
              simp only [List.length_append, List.length_cons, List.length_nil] at h2 ⊢
              omega
            · rw [HI.out.2.2, HP.out.1]
              cases pathIs y <;> simp
            · rw [List.length_append]
              have g := S5.out.below ((Below.refl _ _).alloc (Nat.le_refl _) (.cells #[.int .i64 1, .slice At k ct] 117))
              exact ⟨g.rd.keep (fun j hj => HB6.out.block j hj) HB6.out.size, h, g.low.trans (HB6.out.mono g.n.2), Nat.le_trans g.n.1 HB6.out.size, g.n.2⟩
          case measure =>
            have h2 := HI.out.2.1
            simp [slen] at h2 ⊢
            omega
        · go_wp2_with (first
          | (go_at_call 47; refine (CL.out).mono ?_; rintro e x1 ⟨rfl, hb⟩; have S1 := Go.Lib.hid (ST.out.below hb); clear hb ST)
          | (have h := S1.out; go_at_call 82; first | (refine (CU1.out _ h.rd).mono ?_; rintro e x2 ⟨rfl, hr, ho⟩; have S2 := Go.Lib.hid (h.read (y := ⟨m1, false⟩) hr ho); clear h hr ho S1) | (trace "FELL 1"; trace_state; fail_if_success skip))
          | (have h := S2.out; go_at_call 82; first | (refine (CU2.out _ h.rd).mono ?_; rintro e x3 ⟨rfl, hr, ho⟩; have S3 := Go.Lib.hid (h.read (y := x) hr ho); clear h hr ho S2) | (trace "FELL 2"; trace_state; fail_if_success skip))
          | (have h := S3.out; go_at_call 118; first | (refine (CT.out _ h.n.1 h.rd).mono ?_; rintro e x4 ⟨At, ct, rfl, hU, hn, hr, ho⟩; have HAP := Go.Lib.hid (fresh_apart h.own h.n.1 hn); have S4 := Go.Lib.hid (h.read (y := ⟨y, false⟩) hr ho); have HU := Go.Lib.hid hU; clear h hr ho hU hn S3) | (trace "FELL 3"; trace_state; fail_if_success skip))
          | (have h := S4.out; go_at_call 44; first | (refine (bad_any _ _ _ _ _ _ _ h.rd).mono ?_; rintro e x5 ⟨rfl, hb⟩; have S5 := Go.Lib.hid (h.below hb); replace HU := Go.Lib.hid (HU.out.keep hb); clear h hb S4) | (trace "FELL 4"; trace_state; fail_if_success skip))
          | (have h := S5.out; obtain ⟨q, o1, o2, o3, o4⟩ := h.own; at_builtin; first | (refine wpList_append_row rfl (.tmp 34) (.tmp 38) rfl E N _ p.length (segCells p q) rfl (o1.alloc _) _ 1 [.int .i64 2, .slice At k ct] rfl (row_seg_at _ _ _ _ rfl) (ones_two _ _ _ _) (by unfold maxLen; omega) (by omega) (by have := h.n.1; simp; omega) (p.length + 1) rfl ?_; intro A2 c2 w2 hown2 hg2 hat2 hb2; have S6 := Go.Lib.hid (segs_push (l := ns) o2 o4 o3 HU.out HAP.out rfl hown2 hg2 hat2); have HB6 := Go.Lib.hid hb2; clear h o1 o2 o3 o4 hown2 hg2 hat2 hb2) | (trace "FELL 5"; trace_state; fail_if_success skip)))
          go_roundw
          case rel =>
            have h := S6.out
            refine ⟨y, p ++ [((2 : Int), ns)], A2, c2, by rw [List.length_append]; rfl, Go.Lib.hid ⟨HY.out.1, ?_, ?_⟩, Go.Lib.hid ?_⟩
            · have h1 := HP.out.2
              have h2 := HI.out.2.1
              simp only [List.length_append, List.length_cons, List.length_nil] at h2 ⊢
              omega
            · rw [HI.out.2.2, HP.out.1]
              cases pathIs y <;> simp
            · rw [List.length_append]
              have g := S5.out.below ((Below.refl _ _).alloc (Nat.le_refl _) (.cells #[.int .i64 2, .slice At k ct] 117))
              exact ⟨g.rd.keep (fun j hj => HB6.out.block j hj) HB6.out.size, h, g.low.trans (HB6.out.mono g.n.2), Nat.le_trans g.n.1 HB6.out.size, g.n.2⟩
          case measure =>
            have h2 := HI.out.2.1
            simp [slen] at h2 ⊢
            omega
      · have HN := Go.Lib.hid (HR.out.2 hok)
        cases bad with
        | true =>
          go_wp2_with (first
          | (go_at_call 47; refine (CL.out).mono ?_; rintro e x1 ⟨rfl, hb⟩; have S1 := Go.Lib.hid (ST.out.below hb); clear hb ST)
          | (have h := S1.out; go_at_call 82; first | (refine (CU1.out _ h.rd).mono ?_; rintro e x2 ⟨rfl, hr, ho⟩; have S2 := Go.Lib.hid (h.read (y := ⟨m1, false⟩) hr ho); clear h hr ho S1) | (trace "FELL 1"; trace_state; fail_if_success skip))
          | (have h := S2.out; go_at_call 82; first | (refine (CU2.out _ h.rd).mono ?_; rintro e x3 ⟨rfl, hr, ho⟩; have S3 := Go.Lib.hid (h.read (y := x) hr ho); clear h hr ho S2) | (trace "FELL 2"; trace_state; fail_if_success skip))
          | (have h := S3.out; go_at_call 118; first | (refine (CT.out _ h.n.1 h.rd).mono ?_; rintro e x4 ⟨At, ct, rfl, hU, hn, hr, ho⟩; have HAP := Go.Lib.hid (fresh_apart h.own h.n.1 hn); have S4 := Go.Lib.hid (h.read (y := ⟨y, true⟩) hr ho); have HU := Go.Lib.hid hU; clear h hr ho hU hn S3) | (trace "FELL 3"; trace_state; fail_if_success skip))
          | (have h := S4.out; go_at_call 44; first | (refine (bad_any _ _ _ _ _ _ _ h.rd).mono ?_; rintro e x5 ⟨rfl, hb⟩; have S5 := Go.Lib.hid (h.below hb); replace HU := Go.Lib.hid (HU.out.keep hb); clear h hb S4) | (trace "FELL 4"; trace_state; fail_if_success skip))
          | (have h := S5.out; obtain ⟨q, o1, o2, o3, o4⟩ := h.own; at_builtin; first | (refine wpList_append_row rfl (.tmp 34) (.tmp 38) rfl E N _ p.length (segCells p q) rfl (o1.alloc _) _ 1 [.int .i64 a, .slice At k ct] rfl (row_seg_at _ _ _ _ rfl) (ones_two _ _ _ _) (by unfold maxLen; omega) (by omega) (by have := h.n.1; simp; omega) (p.length + 1) rfl ?_; intro A2 c2 w2 hown2 hg2 hat2 hb2; have S6 := Go.Lib.hid (segs_push (l := ns) o2 o4 o3 HU.out HAP.out rfl hown2 hg2 hat2); have HB6 := Go.Lib.hid hb2; clear h o1 o2 o3 o4 hown2 hg2 hat2 hb2) | (trace "FELL 5"; trace_state; fail_if_success skip)))
          go_ret2
          refine ⟨S5.out.low, ?_⟩
          rw [HI.out.2.2, HN.out]
          rfl
        | false =>
          by_cases h1 : a = 1
          · subst h1
            obtain rfl : k = 0 := by
              rcases Nat.eq_zero_or_pos k with h | h
              · exact h
              · exact absurd ⟨rfl, .inl rfl, by omega⟩ hok
            go_wp2_with (first
            | (go_at_call 47; refine (CL.out).mono ?_; rintro e x1 ⟨rfl, hb⟩; have S1 := Go.Lib.hid (ST.out.below hb); clear hb ST)
            | (have h := S1.out; go_at_call 82; first | (refine (CU1.out _ h.rd).mono ?_; rintro e x2 ⟨rfl, hr, ho⟩; have S2 := Go.Lib.hid (h.read (y := ⟨m1, false⟩) hr ho); clear h hr ho S1) | (trace "FELL 1"; trace_state; fail_if_success skip))
            | (have h := S2.out; go_at_call 82; first | (refine (CU2.out _ h.rd).mono ?_; rintro e x3 ⟨rfl, hr, ho⟩; have S3 := Go.Lib.hid (h.read (y := x) hr ho); clear h hr ho S2) | (trace "FELL 2"; trace_state; fail_if_success skip))
            | (have h := S3.out; go_at_call 118; first | (refine (CT.out _ h.n.1 h.rd).mono ?_; rintro e x4 ⟨At, ct, rfl, hU, hn, hr, ho⟩; have HAP := Go.Lib.hid (fresh_apart h.own h.n.1 hn); have S4 := Go.Lib.hid (h.read (y := ⟨y, false⟩) hr ho); have HU := Go.Lib.hid hU; clear h hr ho hU hn S3) | (trace "FELL 3"; trace_state; fail_if_success skip))
            | (have h := S4.out; go_at_call 44; first | (refine (bad_any _ _ _ _ _ _ _ h.rd).mono ?_; rintro e x5 ⟨rfl, hb⟩; have S5 := Go.Lib.hid (h.below hb); replace HU := Go.Lib.hid (HU.out.keep hb); clear h hb S4) | (trace "FELL 4"; trace_state; fail_if_success skip))
            | (have h := S5.out; obtain ⟨q, o1, o2, o3, o4⟩ := h.own; at_builtin; first | (refine wpList_append_row rfl (.tmp 34) (.tmp 38) rfl E N _ p.length (segCells p q) rfl (o1.alloc _) _ 1 [.int .i64 a, .slice At k ct] rfl (row_seg_at _ _ _ _ rfl) (ones_two _ _ _ _) (by unfold maxLen; omega) (by omega) (by have := h.n.1; simp; omega) (p.length + 1) rfl ?_; intro A2 c2 w2 hown2 hg2 hat2 hb2; have S6 := Go.Lib.hid (segs_push (l := ns) o2 o4 o3 HU.out HAP.out rfl hown2 hg2 hat2); have HB6 := Go.Lib.hid hb2; clear h o1 o2 o3 o4 hown2 hg2 hat2 hb2) | (trace "FELL 5"; trace_state; fail_if_success skip)))
            go_ret2
            refine ⟨S5.out.low, ?_⟩
            rw [HI.out.2.2, HN.out]
            rfl
          · by_cases h2 : a = 2
            · subst h2
              obtain rfl : k = 0 := by
                rcases Nat.eq_zero_or_pos k with h | h
                · exact h
                · exact absurd ⟨rfl, .inr rfl, by omega⟩ hok
              go_wp2_with (first
              | (go_at_call 47; refine (CL.out).mono ?_; rintro e x1 ⟨rfl, hb⟩; have S1 := Go.Lib.hid (ST.out.below hb); clear hb ST)
              | (have h := S1.out; go_at_call 82; first | (refine (CU1.out _ h.rd).mono ?_; rintro e x2 ⟨rfl, hr, ho⟩; have S2 := Go.Lib.hid (h.read (y := ⟨m1, false⟩) hr ho); clear h hr ho S1) | (trace "FELL 1"; trace_state; fail_if_success skip))
              | (have h := S2.out; go_at_call 82; first | (refine (CU2.out _ h.rd).mono ?_; rintro e x3 ⟨rfl, hr, ho⟩; have S3 := Go.Lib.hid (h.read (y := x) hr ho); clear h hr ho S2) | (trace "FELL 2"; trace_state; fail_if_success skip))
              | (have h := S3.out; go_at_call 118; first | (refine (CT.out _ h.n.1 h.rd).mono ?_; rintro e x4 ⟨At, ct, rfl, hU, hn, hr, ho⟩; have HAP := Go.Lib.hid (fresh_apart h.own h.n.1 hn); have S4 := Go.Lib.hid (h.read (y := ⟨y, false⟩) hr ho); have HU := Go.Lib.hid hU; clear h hr ho hU hn S3) | (trace "FELL 3"; trace_state; fail_if_success skip))
              | (have h := S4.out; go_at_call 44; first | (refine (bad_any _ _ _ _ _ _ _ h.rd).mono ?_; rintro e x5 ⟨rfl, hb⟩; have S5 := Go.Lib.hid (h.below hb); replace HU := Go.Lib.hid (HU.out.keep hb); clear h hb S4) | (trace "FELL 4"; trace_state; fail_if_success skip))
              | (have h := S5.out; obtain ⟨q, o1, o2, o3, o4⟩ := h.own; at_builtin; first | (refine wpList_append_row rfl (.tmp 34) (.tmp 38) rfl E N _ p.length (segCells p q) rfl (o1.alloc _) _ 1 [.int .i64 a, .slice At k ct] rfl (row_seg_at _ _ _ _ rfl) (ones_two _ _ _ _) (by unfold maxLen; omega) (by omega) (by have := h.n.1; simp; omega) (p.length + 1) rfl ?_; intro A2 c2 w2 hown2 hg2 hat2 hb2; have S6 := Go.Lib.hid (segs_push (l := ns) o2 o4 o3 HU.out HAP.out rfl hown2 hg2 hat2); have HB6 := Go.Lib.hid hb2; clear h o1 o2 o3 o4 hown2 hg2 hat2 hb2) | (trace "FELL 5"; trace_state; fail_if_success skip)))
              go_ret2
              refine ⟨S5.out.low, ?_⟩
              rw [HI.out.2.2, HN.out]
              rfl
            · have d1 : ((a : Int) != 1) = true := by simp; omega
              have d2 : ((a : Int) != 2) = true := by simp; omega
              go_wp2_with (first
              | (go_at_call 47; refine (CL.out).mono ?_; rintro e x1 ⟨rfl, hb⟩; have S1 := Go.Lib.hid (ST.out.below hb); clear hb ST)
              | (have h := S1.out; go_at_call 82; first | (refine (CU1.out _ h.rd).mono ?_; rintro e x2 ⟨rfl, hr, ho⟩; have S2 := Go.Lib.hid (h.read (y := ⟨m1, false⟩) hr ho); clear h hr ho S1) | (trace "FELL 1"; trace_state; fail_if_success skip))
              | (have h := S2.out; go_at_call 82; first | (refine (CU2.out _ h.rd).mono ?_; rintro e x3 ⟨rfl, hr, ho⟩; have S3 := Go.Lib.hid (h.read (y := x) hr ho); clear h hr ho S2) | (trace "FELL 2"; trace_state; fail_if_success skip))
              | (have h := S3.out; go_at_call 118; first | (refine (CT.out _ h.n.1 h.rd).mono ?_; rintro e x4 ⟨At, ct, rfl, hU, hn, hr, ho⟩; have HAP := Go.Lib.hid (fresh_apart h.own h.n.1 hn); have S4 := Go.Lib.hid (h.read (y := ⟨y, false⟩) hr ho); have HU := Go.Lib.hid hU; clear h hr ho hU hn S3) | (trace "FELL 3"; trace_state; fail_if_success skip))
              | (have h := S4.out; go_at_call 44; first | (refine (bad_any _ _ _ _ _ _ _ h.rd).mono ?_; rintro e x5 ⟨rfl, hb⟩; have S5 := Go.Lib.hid (h.below hb); replace HU := Go.Lib.hid (HU.out.keep hb); clear h hb S4) | (trace "FELL 4"; trace_state; fail_if_success skip))
              | (have h := S5.out; obtain ⟨q, o1, o2, o3, o4⟩ := h.own; at_builtin; first | (refine wpList_append_row rfl (.tmp 34) (.tmp 38) rfl E N _ p.length (segCells p q) rfl (o1.alloc _) _ 1 [.int .i64 a, .slice At k ct] rfl (row_seg_at _ _ _ _ rfl) (ones_two _ _ _ _) (by unfold maxLen; omega) (by omega) (by have := h.n.1; simp; omega) (p.length + 1) rfl ?_; intro A2 c2 w2 hown2 hg2 hat2 hb2; have S6 := Go.Lib.hid (segs_push (l := ns) o2 o4 o3 HU.out HAP.out rfl hown2 hg2 hat2); have HB6 := Go.Lib.hid hb2; clear h o1 o2 o3 o4 hown2 hg2 hat2 hb2) | (trace "FELL 5"; trace_state; fail_if_success skip)))
              go_ret2
              refine ⟨S5.out.low, ?_⟩
              rw [HI.out.2.2, HN.out]
              rfl
end Go.Proofs.YtlhdjdnflpilbaaGreatDoor.Att
namespace Go.Proofs.YtlhdjdnflpilbaaGreatDoor.Att
open Go.RowKit Mem Segm Oct Seg
theorem only_new {G F : Nat → Prop} {w W W2 : World} (h : Only G w W) (k : Only F W W2) (hF : ∀ q, F q → w.heap.size ≤ q) : Only G w W2 :=
  ⟨k.os.trans h.os, k.tape.trans h.tape, k.output.trans h.output, Nat.le_trans h.size k.size, fun j hj hg => (k.block j (Nat.lt_of_lt_of_le hj h.size) (fun hf => by have := hF j hf; omega)).trans (h.block j hj hg)⟩
theorem R.apart {W W' : World} {base n B : Nat} {v : Value} {l : List Nat} {bad : Bool} {F : Nat → Prop} (h : R W base n v l bad F) (hB : ∀ i n, W.cell? ⟨B, i, none⟩ ≠ some (.int .u8 n)) (hb : B < base) (hk : ∀ k, k ≠ B → W'.heap[k]? = W.heap[k]?) (hs : W.heap.size ≤ W'.heap.size) : R W' base n v l bad F := by
  rcases h with h | ⟨b, s, h1, h2, h3, h4, h5, h6, h7, h8⟩
  · exact .inl h
  · exact .inr ⟨b, s, h1, h2, h3, Nat.le_trans h4 hs, (hk b (by omega)).trans h5, u8_apart h6 hB hk hs, h7, h8⟩
theorem Box9.no8 {W : World} {B : Nat} {t : TypeId} {y0 y1 y2 y3 y4 y5 y6 y7 y8 : Value} (h : Box9 W B t y0 y1 y2 y3 y4 y5 y6 y7 y8) (hy : ∀ u ∈ [y0, y1, y2, y3, y4, y5, y6, y7, y8], No8 u) (i : Nat) (n : Int) : W.cell? ⟨B, i, none⟩ ≠ some (.int .u8 n) :=
  no8_cells h.blk (fun u hu => hy u (by simpa using hu)) i n
structure FiSt (w0 : World) (B : Nat) (y0 y1 y2 y3 y4 y5 y6 y7 y8 z0 z1 z2 : Value) (b N : Nat) (x : Rd) (W : World) : Prop where
  b9 : Box9 W B 27 y0 y1 y2 y3 y4 y5 y6 y7 y8
  n8 : ∀ u ∈ [y0, y1, y2, y3, y4, y5, y6, y7, y8], No8 u
  b3 : Box3 W w0.heap.size 90 z0 z1 z2
  rd : R W (w0.heap.size + 1) N (.pointer (some ⟨b, 0, none⟩)) x.l x.b (fun q => q = b)
  on : Only (fun q => q = B) w0 W
  lt : B < w0.heap.size
section
variable {w0 W W2 : World} {B b N : Nat} {y0 y1 y2 y3 y4 y5 y6 y7 y8 z0 z1 z2 u : Value} {x y : Rd}
theorem FiSt.below (h : FiSt w0 B y0 y1 y2 y3 y4 y5 y6 y7 y8 z0 z1 z2 b N x W) (hb : Below W.heap.size W W2) : FiSt w0 B y0 y1 y2 y3 y4 y5 y6 y7 y8 z0 z1 z2 b N x W2 :=
  ⟨h.b9.keep hb, h.n8, h.b3.keep hb, h.rd.below hb, h.on.trans (Only.of hb), h.lt⟩
theorem FiSt.read (h : FiSt w0 B y0 y1 y2 y3 y4 y5 y6 y7 y8 z0 z1 z2 b N x W) (hr : R W2 (w0.heap.size + 1) N (.pointer (some ⟨b, 0, none⟩)) y.l y.b (fun q => q = b)) (ho : Only (fun q => q = b) W W2) : FiSt w0 B y0 y1 y2 y3 y4 y5 y6 y7 y8 z0 z1 z2 b N y W2 := by
  have hb := h.rd.low b rfl
  have hB := h.lt
  exact ⟨⟨(ho.block B h.b9.lt (by omega)).trans h.b9.blk⟩, h.n8, ⟨(ho.block w0.heap.size h.b3.lt (by omega)).trans h.b3.blk⟩, hr, only_new h.on ho (fun q e => by subst e; omega), h.lt⟩
theorem fi_new {xf xk xv : Value} (h : Box9 w0 B 27 y0 y1 y2 y3 y4 y5 y6 y7 y8) (n8 : ∀ u ∈ [y0, y1, y2, y3, y4, y5, y6, y7, y8], No8 u)
    (hR : R W (w0.alloc (.cells #[xf, xk, xv] 90)).heap.size N (.pointer (some ⟨b, 0, none⟩)) x.l x.b (fun q => q = b)) (hb : Below (w0.alloc (.cells #[xf, xk, xv] 90)).heap.size (w0.alloc (.cells #[xf, xk, xv] 90)) W) :
    FiSt w0 B y0 y1 y2 y3 y4 y5 y6 y7 y8 xf xk xv b N x W := by
  have e1 : (w0.alloc (.cells #[xf, xk, xv] 90)).heap.size = w0.heap.size + 1 := by simp
  have k1 : Below w0.heap.size w0 (w0.alloc (.cells #[xf, xk, xv] 90)) := (Below.refl _ _).alloc (Nat.le_refl _) _
  rw [e1] at hR
  exact ⟨(h.keep k1).keep hb, n8, (Box3.new _ _ _ _ _).keep hb, hR, (Only.of k1).trans (Only.of hb), h.lt⟩
theorem FiSt.far (h : FiSt w0 B y0 y1 y2 y3 y4 y5 y6 y7 y8 z0 z1 z2 b N x W) (i : Nat) (u : Value) : Box3 (W.setCell ⟨B, i, none⟩ u) w0.heap.size 90 z0 z1 z2 ∧ R (W.setCell ⟨B, i, none⟩ u) (w0.heap.size + 1) N (.pointer (some ⟨b, 0, none⟩)) x.l x.b (fun q => q = b) ∧ Only (fun q => q = B) w0 (W.setCell ⟨B, i, none⟩ u) := by
  have hB := h.lt
  exact ⟨h.b3.far (by omega) u, R.apart h.rd (h.b9.no8 h.n8) (by omega) (fun k hk => Go.RowKit.Below.heap_setCell _ _ _ _ hk) (by simp), h.on.set rfl u⟩
theorem FiSt.set0 (h : FiSt w0 B y0 y1 y2 y3 y4 y5 y6 y7 y8 z0 z1 z2 b N x W) (u : Value) (hu : No8 u) : FiSt w0 B u y1 y2 y3 y4 y5 y6 y7 y8 z0 z1 z2 b N x (W.setCell ⟨B, 0, none⟩ u) :=
  ⟨h.b9.set0 u, fun v hv => by have := h.n8 v; simp only [List.mem_cons, List.not_mem_nil, or_false] at hv this; (rcases hv with rfl | rfl | rfl | rfl | rfl | rfl | rfl | rfl | rfl) <;> first | exact hu | exact this (by simp), (h.far 0 u).1, (h.far 0 u).2.1, (h.far 0 u).2.2, h.lt⟩
theorem FiSt.set1 (h : FiSt w0 B y0 y1 y2 y3 y4 y5 y6 y7 y8 z0 z1 z2 b N x W) (u : Value) (hu : No8 u) : FiSt w0 B y0 u y2 y3 y4 y5 y6 y7 y8 z0 z1 z2 b N x (W.setCell ⟨B, 1, none⟩ u) :=
  ⟨h.b9.set1 u, fun v hv => by have := h.n8 v; simp only [List.mem_cons, List.not_mem_nil, or_false] at hv this; (rcases hv with rfl | rfl | rfl | rfl | rfl | rfl | rfl | rfl | rfl) <;> first | exact hu | exact this (by simp), (h.far 1 u).1, (h.far 1 u).2.1, (h.far 1 u).2.2, h.lt⟩
theorem FiSt.set2 (h : FiSt w0 B y0 y1 y2 y3 y4 y5 y6 y7 y8 z0 z1 z2 b N x W) (u : Value) (hu : No8 u) : FiSt w0 B y0 y1 u y3 y4 y5 y6 y7 y8 z0 z1 z2 b N x (W.setCell ⟨B, 2, none⟩ u) :=
  ⟨h.b9.set2 u, fun v hv => by have := h.n8 v; simp only [List.mem_cons, List.not_mem_nil, or_false] at hv this; (rcases hv with rfl | rfl | rfl | rfl | rfl | rfl | rfl | rfl | rfl) <;> first | exact hu | exact this (by simp), (h.far 2 u).1, (h.far 2 u).2.1, (h.far 2 u).2.2, h.lt⟩
theorem FiSt.set3 (h : FiSt w0 B y0 y1 y2 y3 y4 y5 y6 y7 y8 z0 z1 z2 b N x W) (u : Value) (hu : No8 u) : FiSt w0 B y0 y1 y2 u y4 y5 y6 y7 y8 z0 z1 z2 b N x (W.setCell ⟨B, 3, none⟩ u) :=
  ⟨h.b9.set3 u, fun v hv => by have := h.n8 v; simp only [List.mem_cons, List.not_mem_nil, or_false] at hv this; (rcases hv with rfl | rfl | rfl | rfl | rfl | rfl | rfl | rfl | rfl) <;> first | exact hu | exact this (by simp), (h.far 3 u).1, (h.far 3 u).2.1, (h.far 3 u).2.2, h.lt⟩
theorem FiSt.set4 (h : FiSt w0 B y0 y1 y2 y3 y4 y5 y6 y7 y8 z0 z1 z2 b N x W) (u : Value) (hu : No8 u) : FiSt w0 B y0 y1 y2 y3 u y5 y6 y7 y8 z0 z1 z2 b N x (W.setCell ⟨B, 4, none⟩ u) :=
  ⟨h.b9.set4 u, fun v hv => by have := h.n8 v; simp only [List.mem_cons, List.not_mem_nil, or_false] at hv this; (rcases hv with rfl | rfl | rfl | rfl | rfl | rfl | rfl | rfl | rfl) <;> first | exact hu | exact this (by simp), (h.far 4 u).1, (h.far 4 u).2.1, (h.far 4 u).2.2, h.lt⟩
theorem FiSt.set5 (h : FiSt w0 B y0 y1 y2 y3 y4 y5 y6 y7 y8 z0 z1 z2 b N x W) (u : Value) (hu : No8 u) : FiSt w0 B y0 y1 y2 y3 y4 u y6 y7 y8 z0 z1 z2 b N x (W.setCell ⟨B, 5, none⟩ u) :=
  ⟨h.b9.set5 u, fun v hv => by have := h.n8 v; simp only [List.mem_cons, List.not_mem_nil, or_false] at hv this; (rcases hv with rfl | rfl | rfl | rfl | rfl | rfl | rfl | rfl | rfl) <;> first | exact hu | exact this (by simp), (h.far 5 u).1, (h.far 5 u).2.1, (h.far 5 u).2.2, h.lt⟩
theorem FiSt.set6 (h : FiSt w0 B y0 y1 y2 y3 y4 y5 y6 y7 y8 z0 z1 z2 b N x W) (u : Value) (hu : No8 u) : FiSt w0 B y0 y1 y2 y3 y4 y5 u y7 y8 z0 z1 z2 b N x (W.setCell ⟨B, 6, none⟩ u) :=
  ⟨h.b9.set6 u, fun v hv => by have := h.n8 v; simp only [List.mem_cons, List.not_mem_nil, or_false] at hv this; (rcases hv with rfl | rfl | rfl | rfl | rfl | rfl | rfl | rfl | rfl) <;> first | exact hu | exact this (by simp), (h.far 6 u).1, (h.far 6 u).2.1, (h.far 6 u).2.2, h.lt⟩
theorem FiSt.set7 (h : FiSt w0 B y0 y1 y2 y3 y4 y5 y6 y7 y8 z0 z1 z2 b N x W) (u : Value) (hu : No8 u) : FiSt w0 B y0 y1 y2 y3 y4 y5 y6 u y8 z0 z1 z2 b N x (W.setCell ⟨B, 7, none⟩ u) :=
  ⟨h.b9.set7 u, fun v hv => by have := h.n8 v; simp only [List.mem_cons, List.not_mem_nil, or_false] at hv this; (rcases hv with rfl | rfl | rfl | rfl | rfl | rfl | rfl | rfl | rfl) <;> first | exact hu | exact this (by simp), (h.far 7 u).1, (h.far 7 u).2.1, (h.far 7 u).2.2, h.lt⟩
theorem FiSt.set8 (h : FiSt w0 B y0 y1 y2 y3 y4 y5 y6 y7 y8 z0 z1 z2 b N x W) (u : Value) (hu : No8 u) : FiSt w0 B y0 y1 y2 y3 y4 y5 y6 y7 u z0 z1 z2 b N x (W.setCell ⟨B, 8, none⟩ u) :=
  ⟨h.b9.set8 u, fun v hv => by have := h.n8 v; simp only [List.mem_cons, List.not_mem_nil, or_false] at hv this; (rcases hv with rfl | rfl | rfl | rfl | rfl | rfl | rfl | rfl | rfl) <;> first | exact hu | exact this (by simp), (h.far 8 u).1, (h.far 8 u).2.1, (h.far 8 u).2.2, h.lt⟩
end
end Go.Proofs.YtlhdjdnflpilbaaGreatDoor.Att
namespace Go.Proofs.YtlhdjdnflpilbaaGreatDoor.Att
open Go.RowKit Mem Segm Oct Seg
structure BoxA (W : World) (B N : Nat) (a : At) : Prop where
  ok : a.ok
  lt : B < N ∧ N ≤ W.heap.size
  box : ∃ Ap np cp Ac nc cc, Box9 W B 27 (.int .i64 a.has) (.int .i64 a.origin) (.slice Ap np cp) (.int .u32 a.hop) (.int .u32 a.med) (.int .u32 a.pref) (.int .u32 a.aas) (.int .u32 a.aid) (.slice Ac nc cc) ∧ OwnSegsF 117 N N W (.slice Ap np cp) a.path ∧ U32s W (.slice Ac nc cc) a.comms ∧ NewAt N (.slice Ac nc cc)
theorem u32_on {F : Nat → Prop} {W W' : World} {n : Nat} {v : Value} {l : List Nat} (h : U32s W v l) (hn : NewAt n v) (ho : Only F W W') (hF : ∀ k, F k → k < n) : U32s W' v l := by
  obtain ⟨⟨hl, A, c, rfl, hm, hc, hr⟩, hsm⟩ := h
  refine ⟨⟨hl, A, c, rfl, hm, hc, fun h0 => ?_⟩, hsm⟩
  obtain ⟨b, off, rfl, hlt, hcell⟩ := hr h0
  have hb := hn b off _ c rfl h0
  have hs := ho.block b hlt (fun hf => by have := hF b hf; omega)
  exact ⟨b, off, rfl, Nat.lt_of_lt_of_le hlt ho.size, fun i y hy => by rw [← hcell i y hy]; exact World.cell?_of_block hs⟩
theorem BoxA.on {F : Nat → Prop} {W W' : World} {B N : Nat} {a : At} (h : BoxA W B N a) (ho : Only F W W') (hF : ∀ k, F k → k < N ∧ k ≠ B) : BoxA W' B N a := by
  obtain ⟨h1, h2, Ap, np, cp, Ac, nc, cc, h3, h4, h5, h6⟩ := h
  exact ⟨h1, ⟨h2.1, Nat.le_trans h2.2 ho.size⟩, Ap, np, cp, Ac, nc, cc, ⟨(ho.block B h3.lt (fun hf => (hF B hf).2 rfl)).trans h3.blk⟩, segs_on h4 ho (fun k hk => (hF k hk).1), u32_on h5 h6 ho (fun k hk => (hF k hk).1), h6⟩
theorem BoxA.below {W W' : World} {B N : Nat} {a : At} (h : BoxA W B N a) (hb : Below W.heap.size W W') : BoxA W' B N a := h.on (F := fun _ => False) (Only.of hb) (fun _ hk => hk.elim)
def fillN (k : Nat) (v : List Nat) : Nat :=
  if k = 1 then (if 2 < val v then 6 else 0)
  else if k = 2 then (match pathIs v with | some p => if goodP (normS p) && decide (lens p ≤ 2000) then 0 else 11 | none => 11)
  else if k = 3 then (if hopB (val v) then 0 else 8)
  else 0
def fillA (a : At) (k : Nat) (v : List Nat) : At :=
  ⟨a.has, if k = 1 then (val v : Nat) else a.origin, if k = 2 then (pathIs v).getD [] else a.path, if k = 3 then val v else a.hop, if k = 4 then val v else a.med, if k = 5 then val v else a.pref,
    if k = 7 then val (v.take 4) else a.aas, if k = 7 then val (v.drop 4) else a.aid, if k = 8 then quads v else a.comms⟩
def FillF (B N : Nat) (a : At) (k : Nat) (v : List Nat) (w : World) (e : Ending) (w' : World) : Prop :=
  e = .returned (.int .i64 (fillN k v : Nat)) ∧ Only (fun q => q = B) w w' ∧ (fillN k v = 0 → BoxA w' B N (fillA a k v))
theorem num_all {v : List Nat} {k : Nat} (h : v.length = k) : (Rd.mk v false).num (k : Nat) = val v := by
  have hf := (fit_go (l := v) (n := k) (by omega)).2
  unfold Rd.num
  rw [hf, ← h, List.take_length]
theorem n9 {h o : Int} {hp md pr ag ai np cp nc cc : Nat} {Ap Ac : Option Addr} : ∀ u ∈ [Value.int .i64 h, .int .i64 o, .slice Ap np cp, .int .u32 hp, .int .u32 md, .int .u32 pr, .int .u32 ag, .int .u32 ai, .slice Ac nc cc], No8 u := fun u hu => by
  simp only [List.mem_cons, List.not_mem_nil, or_false] at hu
  rcases hu with rfl | rfl | rfl | rfl | rfl | rfl | rfl | rfl | rfl
  · exact no8_i _
  · exact no8_i _
  · exact no8_s _ _ _
  · exact no8_u _
  · exact no8_u _
  · exact no8_u _
  · exact no8_u _
  · exact no8_u _
  · exact no8_s _ _ _
theorem val32 {v : List Nat} (hs : Small v) (h : v.length ≤ 4) : val v < 4294967296 := by
  have h1 := val_lt 4 hs
  rw [List.take_of_length_le h] at h1
  exact h1
set_option maxRecDepth 100000 in
set_option maxHeartbeats 4000000 in
theorem fill4 (f : Int) (A : Option Addr) (c : Nat) (v : List Nat) (w : World) (B N : Nat) (a : At) (hA : BoxA w B N a) (hv : U8s w (.slice A v.length c) v) (hl : v.length = 4) :
    Calls Tryz.prog 108 #[.agg #[.int .i64 f, .int .i64 4, .slice A v.length c], .pointer (some ⟨B, 0, none⟩)] w (FillF B N a 4 v w) := by
  obtain ⟨hok, hlt, Ap, np, cp, Ac, nc, cc, h9, hp, hc, hn⟩ := hA
  have hb1 : Below w.heap.size w (w.alloc (.cells #[.int .i64 f, .int .i64 4, .slice A v.length c] 90)) := (Below.refl _ _).alloc (Nat.le_refl _) _
  have CN := Go.Lib.hid (new_any _ v _ (hv.keep hb1) (by omega))
  have HS := Go.Lib.hid hv.2
  have HOK := Go.Lib.hid hok
  have HP := Go.Lib.hid hp
  have HC := Go.Lib.hid (And.intro hc hn)
  have H9 := Go.Lib.hid h9
  have q3 := Box3.new w 90 (.int .i64 f) (.int .i64 4) (.slice A v.length c)
  obtain ⟨d0, d1, d2⟩ := q3.cells
  obtain ⟨hh, ho, hpt, hh3, hh4, hh5, hh6, hh7, hh8⟩ := a
  dsimp only at hp h9 hc hok HP HC H9 HOK
  clear hv hb1 hp hc hn h9 hok q3
  have HV := Go.Lib.hid (val32 HS.out (by omega))
  have CU := Go.Lib.hid (fun (b N : Nat) (W : World) (h : R W (w.heap.size + 1) N (.pointer (some ⟨b, 0, none⟩)) v false (fun q => q = b)) => show Calls Tryz.prog 117 #[.pointer (some ⟨b, 0, none⟩)] W (fun e w' => e = .returned (.int .u32 (val v : Nat)) ∧ R w' (w.heap.size + 1) N (.pointer (some ⟨b, 0, none⟩)) ((Rd.mk v false).go 4).l ((Rd.mk v false).go 4).b (fun q => q = b) ∧ Only (fun q => q = b) W w') from by
    rw [← num_all hl]
    exact u32_any _ _ _ v false _ W HS.out h)
  clear hl
  go_enter Tryz.func108, Tryz.ntmps108
  go_wp2_with (first
    | (go_at_call 40; first | (refine (CN.out).mono ?_; rintro e x ⟨b, rfl, hR, hb⟩; have S1 := Go.Lib.hid (fi_new (x := ⟨v, false⟩) H9.out n9 hR hb); clear hR hb d0 d1 d2; obtain ⟨d0, d1, d2⟩ := S1.out.b3.cells; obtain ⟨c0, c1, c2, c3, c4, c5, c6, c7, c8⟩ := S1.out.b9.cells; have fB := S1.out.b9.free) | (trace "FELL N"; trace_state; fail_if_success skip))
    | (have h := S1.out; go_at_call 117; first | (refine ((Go.Lib.hid (CU.out _ _)).out _ h.rd).mono ?_; rintro e x ⟨rfl, hR, ho⟩; have S2 := Go.Lib.hid (h.read hR ho); clear hR ho h S1; clear d0 d1 d2 c0 c1 c2 c3 c4 c5 c6 c7 c8 fB; obtain ⟨d0, d1, d2⟩ := S2.out.b3.cells; obtain ⟨c0, c1, c2, c3, c4, c5, c6, c7, c8⟩ := S2.out.b9.cells; have fB := S2.out.b9.free; have S3 := Go.Lib.hid (S2.out.set4 (.int .u32 (val v : Nat)) (no8_u _))) | (trace "FELL U32"; trace_state; fail_if_success skip)))
  go_ret
  refine ⟨rfl, S3.out.on, fun _ => ?_⟩
  exact ⟨⟨HOK.out.1, HOK.out.2.1, HOK.out.2.2.1, HV.out, HOK.out.2.2.2.2⟩, ⟨hlt.1, Nat.le_trans hlt.2 S3.out.on.size⟩, Ap, np, cp, Ac, nc, cc, S3.out.b9, segs_on HP.out S3.out.on (fun k e => by subst e; exact hlt.1), u32_on HC.out.1 HC.out.2 S3.out.on (fun k e => by subst e; exact hlt.1), HC.out.2⟩
set_option maxRecDepth 100000 in
set_option maxHeartbeats 4000000 in
theorem fill5 (f : Int) (A : Option Addr) (c : Nat) (v : List Nat) (w : World) (B N : Nat) (a : At) (hA : BoxA w B N a) (hv : U8s w (.slice A v.length c) v) (hl : v.length = 4) :
    Calls Tryz.prog 108 #[.agg #[.int .i64 f, .int .i64 5, .slice A v.length c], .pointer (some ⟨B, 0, none⟩)] w (FillF B N a 5 v w) := by
  obtain ⟨hok, hlt, Ap, np, cp, Ac, nc, cc, h9, hp, hc, hn⟩ := hA
  have hb1 : Below w.heap.size w (w.alloc (.cells #[.int .i64 f, .int .i64 5, .slice A v.length c] 90)) := (Below.refl _ _).alloc (Nat.le_refl _) _
  have CN := Go.Lib.hid (new_any _ v _ (hv.keep hb1) (by omega))
  have HS := Go.Lib.hid hv.2
  have HOK := Go.Lib.hid hok
  have HP := Go.Lib.hid hp
  have HC := Go.Lib.hid (And.intro hc hn)
  have H9 := Go.Lib.hid h9
  have q3 := Box3.new w 90 (.int .i64 f) (.int .i64 5) (.slice A v.length c)
  obtain ⟨d0, d1, d2⟩ := q3.cells
  obtain ⟨hh, ho, hpt, hh3, hh4, hh5, hh6, hh7, hh8⟩ := a
  dsimp only at hp h9 hc hok HP HC H9 HOK
  clear hv hb1 hp hc hn h9 hok q3
  have HV := Go.Lib.hid (val32 HS.out (by omega))
  have CU := Go.Lib.hid (fun (b N : Nat) (W : World) (h : R W (w.heap.size + 1) N (.pointer (some ⟨b, 0, none⟩)) v false (fun q => q = b)) => show Calls Tryz.prog 117 #[.pointer (some ⟨b, 0, none⟩)] W (fun e w' => e = .returned (.int .u32 (val v : Nat)) ∧ R w' (w.heap.size + 1) N (.pointer (some ⟨b, 0, none⟩)) ((Rd.mk v false).go 4).l ((Rd.mk v false).go 4).b (fun q => q = b) ∧ Only (fun q => q = b) W w') from by
    rw [← num_all hl]
    exact u32_any _ _ _ v false _ W HS.out h)
  clear hl
  go_enter Tryz.func108, Tryz.ntmps108
  go_wp2_with (first
    | (go_at_call 40; first | (refine (CN.out).mono ?_; rintro e x ⟨b, rfl, hR, hb⟩; have S1 := Go.Lib.hid (fi_new (x := ⟨v, false⟩) H9.out n9 hR hb); clear hR hb d0 d1 d2; obtain ⟨d0, d1, d2⟩ := S1.out.b3.cells; obtain ⟨c0, c1, c2, c3, c4, c5, c6, c7, c8⟩ := S1.out.b9.cells; have fB := S1.out.b9.free) | (trace "FELL N"; trace_state; fail_if_success skip))
    | (have h := S1.out; go_at_call 117; first | (refine ((Go.Lib.hid (CU.out _ _)).out _ h.rd).mono ?_; rintro e x ⟨rfl, hR, ho⟩; have S2 := Go.Lib.hid (h.read hR ho); clear hR ho h S1; clear d0 d1 d2 c0 c1 c2 c3 c4 c5 c6 c7 c8 fB; obtain ⟨d0, d1, d2⟩ := S2.out.b3.cells; obtain ⟨c0, c1, c2, c3, c4, c5, c6, c7, c8⟩ := S2.out.b9.cells; have fB := S2.out.b9.free; have S3 := Go.Lib.hid (S2.out.set5 (.int .u32 (val v : Nat)) (no8_u _))) | (trace "FELL U32"; trace_state; fail_if_success skip)))
  go_ret
  refine ⟨rfl, S3.out.on, fun _ => ?_⟩
  exact ⟨⟨HOK.out.1, HOK.out.2.1, HOK.out.2.2.1, HOK.out.2.2.2.1, HV.out, HOK.out.2.2.2.2.2⟩, ⟨hlt.1, Nat.le_trans hlt.2 S3.out.on.size⟩, Ap, np, cp, Ac, nc, cc, S3.out.b9, segs_on HP.out S3.out.on (fun k e => by subst e; exact hlt.1), u32_on HC.out.1 HC.out.2 S3.out.on (fun k e => by subst e; exact hlt.1), HC.out.2⟩
set_option maxRecDepth 100000 in
set_option maxHeartbeats 4000000 in
theorem fill1 (f : Int) (A : Option Addr) (c : Nat) (v : List Nat) (w : World) (B N : Nat) (a : At) (hA : BoxA w B N a) (hv : U8s w (.slice A v.length c) v) (hl : v.length = 1) :
    Calls Tryz.prog 108 #[.agg #[.int .i64 f, .int .i64 1, .slice A v.length c], .pointer (some ⟨B, 0, none⟩)] w (FillF B N a 1 v w) := by
  obtain ⟨hok, hlt, Ap, np, cp, Ac, nc, cc, h9, hp, hc, hn⟩ := hA
  have hb1 : Below w.heap.size w (w.alloc (.cells #[.int .i64 f, .int .i64 1, .slice A v.length c] 90)) := (Below.refl _ _).alloc (Nat.le_refl _) _
  have CN := Go.Lib.hid (new_any _ v _ (hv.keep hb1) (by omega))
  have HS := Go.Lib.hid hv.2
  have HOK := Go.Lib.hid hok
  have HP := Go.Lib.hid hp
  have HC := Go.Lib.hid (And.intro hc hn)
  have H9 := Go.Lib.hid h9
  have q3 := Box3.new w 90 (.int .i64 f) (.int .i64 1) (.slice A v.length c)
  obtain ⟨d0, d1, d2⟩ := q3.cells
  obtain ⟨hh, ho, hpt, hh3, hh4, hh5, hh6, hh7, hh8⟩ := a
  dsimp only at hp h9 hc hok HP HC H9 HOK
  clear hv hb1 hp hc hn h9 hok q3
  have CU := Go.Lib.hid (fun (b N : Nat) (W : World) (h : R W (w.heap.size + 1) N (.pointer (some ⟨b, 0, none⟩)) v false (fun q => q = b)) => show Calls Tryz.prog 82 #[.pointer (some ⟨b, 0, none⟩)] W (fun e w' => e = .returned (.int .i64 (val v : Nat)) ∧ R w' (w.heap.size + 1) N (.pointer (some ⟨b, 0, none⟩)) ((Rd.mk v false).go 1).l ((Rd.mk v false).go 1).b (fun q => q = b) ∧ Only (fun q => q = b) W w') from by
    rw [← num_all hl]
    exact u8_any _ _ _ v false _ W HS.out h)
  have HV := Go.Lib.hid (show (Lit.int .i64 ((val v : Nat) : Int)).wf = true by
    have := val32 HS.out (by omega)
    simp [Lit.wf, IntKind.min, IntKind.max, IntKind.signed, IntKind.bits]; omega)
  clear hl
  by_cases h2 : 2 < val v
  · have z1 : ((val v : Nat) : Int) > 2 := by omega
    have HE := Go.Lib.hid (show fillN 1 v = 6 by simp [fillN, h2])
    clear h2
    unfold FillF
    rw [HE.out]
    go_enter Tryz.func108, Tryz.ntmps108
    go_wp2_with (first
      | (go_at_call 40; first | (refine (CN.out).mono ?_; rintro e x ⟨b, rfl, hR, hb⟩; have S1 := Go.Lib.hid (fi_new (x := ⟨v, false⟩) H9.out n9 hR hb); clear hR hb d0 d1 d2; obtain ⟨d0, d1, d2⟩ := S1.out.b3.cells; obtain ⟨c0, c1, c2, c3, c4, c5, c6, c7, c8⟩ := S1.out.b9.cells; have fB := S1.out.b9.free) | (trace "FELL N"; trace_state; fail_if_success skip))
      | (have h := S1.out; go_at_call 82; first | (refine ((Go.Lib.hid (CU.out _ _)).out _ h.rd).mono ?_; rintro e x ⟨rfl, hR, ho⟩; have S2 := Go.Lib.hid (h.read hR ho); clear hR ho h S1; clear d0 d1 d2 c0 c1 c2 c3 c4 c5 c6 c7 c8 fB; obtain ⟨d0, d1, d2⟩ := S2.out.b3.cells; obtain ⟨c0, c1, c2, c3, c4, c5, c6, c7, c8⟩ := S2.out.b9.cells; have fB := S2.out.b9.free; have S3 := Go.Lib.hid (S2.out.set1 (.int .i64 (val v : Nat)) (no8_i _)); obtain ⟨e0, e1, e2, e3, e4, e5, e6, e7, e8⟩ := S3.out.b9.cells) | (trace "FELL U8"; trace_state; fail_if_success skip)))
    go_ret
    refine ⟨rfl, S3.out.on, fun hz => ?_⟩
    cases hz
  · have z1 : decide ((2 : Int) < (val v : Nat)) = false := decide_eq_false (by omega)
    have HE := Go.Lib.hid (show fillN 1 v = 0 by simp [fillN, h2])
    clear h2
    unfold FillF
    rw [HE.out]
    go_enter Tryz.func108, Tryz.ntmps108
    go_wp2_with (first
      | (go_at_call 40; first | (refine (CN.out).mono ?_; rintro e x ⟨b, rfl, hR, hb⟩; have S1 := Go.Lib.hid (fi_new (x := ⟨v, false⟩) H9.out n9 hR hb); clear hR hb d0 d1 d2; obtain ⟨d0, d1, d2⟩ := S1.out.b3.cells; obtain ⟨c0, c1, c2, c3, c4, c5, c6, c7, c8⟩ := S1.out.b9.cells; have fB := S1.out.b9.free) | (trace "FELL N"; trace_state; fail_if_success skip))
      | (have h := S1.out; go_at_call 82; first | (refine ((Go.Lib.hid (CU.out _ _)).out _ h.rd).mono ?_; rintro e x ⟨rfl, hR, ho⟩; have S2 := Go.Lib.hid (h.read hR ho); clear hR ho h S1; clear d0 d1 d2 c0 c1 c2 c3 c4 c5 c6 c7 c8 fB; obtain ⟨d0, d1, d2⟩ := S2.out.b3.cells; obtain ⟨c0, c1, c2, c3, c4, c5, c6, c7, c8⟩ := S2.out.b9.cells; have fB := S2.out.b9.free; have S3 := Go.Lib.hid (S2.out.set1 (.int .i64 (val v : Nat)) (no8_i _)); obtain ⟨e0, e1, e2, e3, e4, e5, e6, e7, e8⟩ := S3.out.b9.cells) | (trace "FELL U8"; trace_state; fail_if_success skip)))
    go_ret
    refine ⟨rfl, S3.out.on, fun hz => ?_⟩
    exact ⟨⟨HOK.out.1, HV.out, HOK.out.2.2⟩, ⟨hlt.1, Nat.le_trans hlt.2 S3.out.on.size⟩, Ap, np, cp, Ac, nc, cc, S3.out.b9, segs_on HP.out S3.out.on (fun k e => by subst e; exact hlt.1), u32_on HC.out.1 HC.out.2 S3.out.on (fun k e => by subst e; exact hlt.1), HC.out.2⟩
set_option maxRecDepth 100000 in
set_option maxHeartbeats 4000000 in
theorem fill3 (f : Int) (A : Option Addr) (c : Nat) (v : List Nat) (w : World) (B N : Nat) (a : At) (hA : BoxA w B N a) (hv : U8s w (.slice A v.length c) v) (hl : v.length = 4) :
    Calls Tryz.prog 108 #[.agg #[.int .i64 f, .int .i64 3, .slice A v.length c], .pointer (some ⟨B, 0, none⟩)] w (FillF B N a 3 v w) := by
  obtain ⟨hok, hlt, Ap, np, cp, Ac, nc, cc, h9, hp, hc, hn⟩ := hA
  have hb1 : Below w.heap.size w (w.alloc (.cells #[.int .i64 f, .int .i64 3, .slice A v.length c] 90)) := (Below.refl _ _).alloc (Nat.le_refl _) _
  have CN := Go.Lib.hid (new_any _ v _ (hv.keep hb1) (by omega))
  have HS := Go.Lib.hid hv.2
  have HOK := Go.Lib.hid hok
  have HP := Go.Lib.hid hp
  have HC := Go.Lib.hid (And.intro hc hn)
  have H9 := Go.Lib.hid h9
  have q3 := Box3.new w 90 (.int .i64 f) (.int .i64 3) (.slice A v.length c)
  obtain ⟨d0, d1, d2⟩ := q3.cells
  obtain ⟨hh, ho, hpt, hh3, hh4, hh5, hh6, hh7, hh8⟩ := a
  dsimp only at hp h9 hc hok HP HC H9 HOK
  clear hv hb1 hp hc hn h9 hok q3
  have HV := Go.Lib.hid (val32 HS.out (by omega))
  have CU := Go.Lib.hid (fun (b N : Nat) (W : World) (h : R W (w.heap.size + 1) N (.pointer (some ⟨b, 0, none⟩)) v false (fun q => q = b)) => show Calls Tryz.prog 117 #[.pointer (some ⟨b, 0, none⟩)] W (fun e w' => e = .returned (.int .u32 (val v : Nat)) ∧ R w' (w.heap.size + 1) N (.pointer (some ⟨b, 0, none⟩)) ((Rd.mk v false).go 4).l ((Rd.mk v false).go 4).b (fun q => q = b) ∧ Only (fun q => q = b) W w') from by
    rw [← num_all hl]
    exact u32_any _ _ _ v false _ W HS.out h)
  have CH := Go.Lib.hid (fun W => hop_any (val v) W HV.out)
  clear hl
  cases hh2 : hopB (val v) with
  | false =>
    have HE := Go.Lib.hid (show fillN 3 v = 8 by simp [fillN, hh2])
    rw [hh2] at CH
    clear hh2
    unfold FillF
    rw [HE.out]
    go_enter Tryz.func108, Tryz.ntmps108
    go_wp2_with (first
      | (go_at_call 40; first | (refine (CN.out).mono ?_; rintro e x ⟨b, rfl, hR, hb⟩; have S1 := Go.Lib.hid (fi_new (x := ⟨v, false⟩) H9.out n9 hR hb); clear hR hb d0 d1 d2; obtain ⟨d0, d1, d2⟩ := S1.out.b3.cells; obtain ⟨c0, c1, c2, c3, c4, c5, c6, c7, c8⟩ := S1.out.b9.cells; have fB := S1.out.b9.free) | (trace "FELL N"; trace_state; fail_if_success skip))
      | (have h := S1.out; go_at_call 117; first | (refine ((Go.Lib.hid (CU.out _ _)).out _ h.rd).mono ?_; rintro e x ⟨rfl, hR, ho⟩; have S2 := Go.Lib.hid (h.read hR ho); clear hR ho h S1; clear d0 d1 d2 c0 c1 c2 c3 c4 c5 c6 c7 c8 fB; obtain ⟨d0, d1, d2⟩ := S2.out.b3.cells; obtain ⟨c0, c1, c2, c3, c4, c5, c6, c7, c8⟩ := S2.out.b9.cells; have fB := S2.out.b9.free; have S3 := Go.Lib.hid (S2.out.set3 (.int .u32 (val v : Nat)) (no8_u _)); obtain ⟨e0, e1, e2, e3, e4, e5, e6, e7, e8⟩ := S3.out.b9.cells) | (trace "FELL U32"; trace_state; fail_if_success skip))
      | (go_at_call 71; first | (refine (CH.out _).mono ?_; rintro e x ⟨rfl, hb⟩; have S4 := Go.Lib.hid (S3.out.below hb); clear hb) | (trace "FELL H"; trace_state; fail_if_success skip)))
    go_ret
    refine ⟨rfl, S4.out.on, fun hz => ?_⟩
    cases hz
  | true =>
    have HE := Go.Lib.hid (show fillN 3 v = 0 by simp [fillN, hh2])
    rw [hh2] at CH
    clear hh2
    unfold FillF
    rw [HE.out]
    go_enter Tryz.func108, Tryz.ntmps108
    go_wp2_with (first
      | (go_at_call 40; first | (refine (CN.out).mono ?_; rintro e x ⟨b, rfl, hR, hb⟩; have S1 := Go.Lib.hid (fi_new (x := ⟨v, false⟩) H9.out n9 hR hb); clear hR hb d0 d1 d2; obtain ⟨d0, d1, d2⟩ := S1.out.b3.cells; obtain ⟨c0, c1, c2, c3, c4, c5, c6, c7, c8⟩ := S1.out.b9.cells; have fB := S1.out.b9.free) | (trace "FELL N"; trace_state; fail_if_success skip))
      | (have h := S1.out; go_at_call 117; first | (refine ((Go.Lib.hid (CU.out _ _)).out _ h.rd).mono ?_; rintro e x ⟨rfl, hR, ho⟩; have S2 := Go.Lib.hid (h.read hR ho); clear hR ho h S1; clear d0 d1 d2 c0 c1 c2 c3 c4 c5 c6 c7 c8 fB; obtain ⟨d0, d1, d2⟩ := S2.out.b3.cells; obtain ⟨c0, c1, c2, c3, c4, c5, c6, c7, c8⟩ := S2.out.b9.cells; have fB := S2.out.b9.free; have S3 := Go.Lib.hid (S2.out.set3 (.int .u32 (val v : Nat)) (no8_u _)); obtain ⟨e0, e1, e2, e3, e4, e5, e6, e7, e8⟩ := S3.out.b9.cells) | (trace "FELL U32"; trace_state; fail_if_success skip))
      | (go_at_call 71; first | (refine (CH.out _).mono ?_; rintro e x ⟨rfl, hb⟩; have S4 := Go.Lib.hid (S3.out.below hb); clear hb) | (trace "FELL H"; trace_state; fail_if_success skip)))
    go_ret
    refine ⟨rfl, S4.out.on, fun hz => ?_⟩
    exact ⟨⟨HOK.out.1, HOK.out.2.1, HV.out, HOK.out.2.2.2⟩, ⟨hlt.1, Nat.le_trans hlt.2 S4.out.on.size⟩, Ap, np, cp, Ac, nc, cc, S4.out.b9, segs_on HP.out S4.out.on (fun k e => by subst e; exact hlt.1), u32_on HC.out.1 HC.out.2 S4.out.on (fun k e => by subst e; exact hlt.1), HC.out.2⟩
set_option maxRecDepth 100000 in
set_option maxHeartbeats 4000000 in
theorem fill6 (f : Int) (A : Option Addr) (c : Nat) (v : List Nat) (w : World) (B N : Nat) (a : At) (hA : BoxA w B N a) (hv : U8s w (.slice A v.length c) v) (hl : v.length = 0) :
    Calls Tryz.prog 108 #[.agg #[.int .i64 f, .int .i64 6, .slice A v.length c], .pointer (some ⟨B, 0, none⟩)] w (FillF B N a 6 v w) := by
  obtain ⟨hok, hlt, Ap, np, cp, Ac, nc, cc, h9, hp, hc, hn⟩ := hA
  have hb1 : Below w.heap.size w (w.alloc (.cells #[.int .i64 f, .int .i64 6, .slice A v.length c] 90)) := (Below.refl _ _).alloc (Nat.le_refl _) _
  have CN := Go.Lib.hid (new_any _ v _ (hv.keep hb1) (by omega))
  have HOK := Go.Lib.hid hok
  have HP := Go.Lib.hid hp
  have HC := Go.Lib.hid (And.intro hc hn)
  have H9 := Go.Lib.hid h9
  have q3 := Box3.new w 90 (.int .i64 f) (.int .i64 6) (.slice A v.length c)
  obtain ⟨d0, d1, d2⟩ := q3.cells
  obtain ⟨hh, ho, hpt, hh3, hh4, hh5, hh6, hh7, hh8⟩ := a
  dsimp only at hp h9 hc hok HP HC H9 HOK
  clear hv hb1 hp hc hn h9 hok q3
  clear hl
  go_enter Tryz.func108, Tryz.ntmps108
  go_wp2_with (go_at_call 40; first | (refine (CN.out).mono ?_; rintro e x ⟨b, rfl, hR, hb⟩; have S1 := Go.Lib.hid (fi_new (x := ⟨v, false⟩) H9.out n9 hR hb); clear hR hb d0 d1 d2; obtain ⟨d0, d1, d2⟩ := S1.out.b3.cells; obtain ⟨c0, c1, c2, c3, c4, c5, c6, c7, c8⟩ := S1.out.b9.cells; have fB := S1.out.b9.free) | (trace "FELL N"; trace_state; fail_if_success skip))
  go_ret
  refine ⟨rfl, S1.out.on, fun _ => ?_⟩
  exact ⟨HOK.out, ⟨hlt.1, Nat.le_trans hlt.2 S1.out.on.size⟩, Ap, np, cp, Ac, nc, cc, S1.out.b9, segs_on HP.out S1.out.on (fun k e => by subst e; exact hlt.1), u32_on HC.out.1 HC.out.2 S1.out.on (fun k e => by subst e; exact hlt.1), HC.out.2⟩
set_option maxRecDepth 100000 in
set_option maxHeartbeats 4000000 in
theorem fill7 (f : Int) (A : Option Addr) (c : Nat) (v : List Nat) (w : World) (B N : Nat) (a : At) (hA : BoxA w B N a) (hv : U8s w (.slice A v.length c) v) (hl : v.length = 8) :
    Calls Tryz.prog 108 #[.agg #[.int .i64 f, .int .i64 7, .slice A v.length c], .pointer (some ⟨B, 0, none⟩)] w (FillF B N a 7 v w) := by
  obtain ⟨hok, hlt, Ap, np, cp, Ac, nc, cc, h9, hp, hc, hn⟩ := hA
  have hb1 : Below w.heap.size w (w.alloc (.cells #[.int .i64 f, .int .i64 7, .slice A v.length c] 90)) := (Below.refl _ _).alloc (Nat.le_refl _) _
  have CN := Go.Lib.hid (new_any _ v _ (hv.keep hb1) (by omega))
  have HS := Go.Lib.hid hv.2
  have HOK := Go.Lib.hid hok
  have HP := Go.Lib.hid hp
  have HC := Go.Lib.hid (And.intro hc hn)
  have H9 := Go.Lib.hid h9
  have q3 := Box3.new w 90 (.int .i64 f) (.int .i64 7) (.slice A v.length c)
  obtain ⟨d0, d1, d2⟩ := q3.cells
  obtain ⟨hh, ho, hpt, hh3, hh4, hh5, hh6, hh7, hh8⟩ := a
  dsimp only at hp h9 hc hok HP HC H9 HOK
  clear hv hb1 hp hc hn h9 hok q3
  have HV := Go.Lib.hid (val32 (HS.out.take 4) (List.length_take_le _ _))
  have HV2 := Go.Lib.hid (val32 (HS.out.drop 4) (by rw [List.length_drop]; omega))
  have CU := Go.Lib.hid (fun (b N : Nat) (W : World) (h : R W (w.heap.size + 1) N (.pointer (some ⟨b, 0, none⟩)) v false (fun q => q = b)) => show Calls Tryz.prog 117 #[.pointer (some ⟨b, 0, none⟩)] W (fun e w' => e = .returned (.int .u32 (val (v.take 4) : Nat)) ∧ R w' (w.heap.size + 1) N (.pointer (some ⟨b, 0, none⟩)) (Rd.mk (v.drop 4) false).l (Rd.mk (v.drop 4) false).b (fun q => q = b) ∧ Only (fun q => q = b) W w') from by
    have h1 := u32_any _ _ _ v false _ W HS.out h
    unfold NumF at h1
    have e1 := fit_go (l := v) (n := 4) (by omega)
    rw [show got v false 4 = v.take 4 from e1.2, show rest v false 4 = v.drop 4 from congrArg Rd.l e1.1, show fails v false 4 = false from congrArg Rd.b e1.1] at h1
    exact h1)
  have CV := Go.Lib.hid (fun (b N : Nat) (W : World) (h : R W (w.heap.size + 1) N (.pointer (some ⟨b, 0, none⟩)) (v.drop 4) false (fun q => q = b)) => show Calls Tryz.prog 117 #[.pointer (some ⟨b, 0, none⟩)] W (fun e w' => e = .returned (.int .u32 (val (v.drop 4) : Nat)) ∧ R w' (w.heap.size + 1) N (.pointer (some ⟨b, 0, none⟩)) ((Rd.mk (v.drop 4) false).go 4).l ((Rd.mk (v.drop 4) false).go 4).b (fun q => q = b) ∧ Only (fun q => q = b) W w') from by
    rw [← num_all (v := v.drop 4) (k := 4) (by rw [List.length_drop]; omega)]
    exact u32_any _ _ _ (v.drop 4) false _ W (HS.out.drop 4) h)
  clear hl
  go_enter Tryz.func108, Tryz.ntmps108
  go_wp2_with (first
    | (go_at_call 40; first | (refine (CN.out).mono ?_; rintro e x ⟨b, rfl, hR, hb⟩; have S1 := Go.Lib.hid (fi_new (x := ⟨v, false⟩) H9.out n9 hR hb); clear hR hb d0 d1 d2; obtain ⟨d0, d1, d2⟩ := S1.out.b3.cells; obtain ⟨c0, c1, c2, c3, c4, c5, c6, c7, c8⟩ := S1.out.b9.cells; have fB := S1.out.b9.free) | (trace "FELL N"; trace_state; fail_if_success skip))
    | (have h := S1.out; go_at_call 117; first | (refine ((Go.Lib.hid (CU.out _ _)).out _ h.rd).mono ?_; rintro e x ⟨rfl, hR, ho⟩; have S2 := Go.Lib.hid (h.read (y := ⟨v.drop 4, false⟩) hR ho); clear hR ho h S1; clear d0 d1 d2 c0 c1 c2 c3 c4 c5 c6 c7 c8 fB; obtain ⟨d0, d1, d2⟩ := S2.out.b3.cells; obtain ⟨c0, c1, c2, c3, c4, c5, c6, c7, c8⟩ := S2.out.b9.cells; have fB := S2.out.b9.free; have S3 := Go.Lib.hid (S2.out.set6 (.int .u32 (val (v.take 4) : Nat)) (no8_u _)); clear S2; obtain ⟨e0, e1, e2, e3, e4, e5, e6, e7, e8⟩ := S3.out.b9.cells; have fE := S3.out.b9.free) | (trace "FELL U32"; trace_state; fail_if_success skip))
    | (have h := S3.out; go_at_call 117; first | (refine (CV.out _ _ _ h.rd).mono ?_; rintro e x ⟨rfl, hR, ho⟩; have S4 := Go.Lib.hid (h.read (y := (Rd.mk (v.drop 4) false).go 4) hR ho); clear hR ho h S3; clear d0 d1 d2 c0 c1 c2 c3 c4 c5 c6 c7 c8 fB e0 e1 e2 e3 e4 e5 e6 e7 e8 fE; obtain ⟨d0, d1, d2⟩ := S4.out.b3.cells; obtain ⟨c0, c1, c2, c3, c4, c5, c6, c7, c8⟩ := S4.out.b9.cells; have fB := S4.out.b9.free; have S5 := Go.Lib.hid (S4.out.set7 (.int .u32 (val (v.drop 4) : Nat)) (no8_u _))) | (trace "FELL V"; trace_state; fail_if_success skip)))
  go_ret
  refine ⟨rfl, S5.out.on, fun _ => ?_⟩
  exact ⟨⟨HOK.out.1, HOK.out.2.1, HOK.out.2.2.1, HOK.out.2.2.2.1, HOK.out.2.2.2.2.1, HV.out, HV2.out⟩, ⟨hlt.1, Nat.le_trans hlt.2 S5.out.on.size⟩, Ap, np, cp, Ac, nc, cc, S5.out.b9, segs_on HP.out S5.out.on (fun k e => by subst e; exact hlt.1), u32_on HC.out.1 HC.out.2 S5.out.on (fun k e => by subst e; exact hlt.1), HC.out.2⟩
end Go.Proofs.YtlhdjdnflpilbaaGreatDoor.Att
