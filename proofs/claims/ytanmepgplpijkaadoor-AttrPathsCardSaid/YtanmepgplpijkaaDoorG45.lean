/- The laws' small living call: an origin's bytes. The reference's Path: the pieces of a path's bytes. -/
import Derived.Test.YtanmepgplpijkaaDoorG40
import Derived.Test.YtanmepgplpijkaaDoorG44
import Derived.Test.YtanmepgplpijkaaDoorG37
namespace Go.Proofs.YtanmepgplpijkaaDoor.Att
open Go.RowKit Mem Segm Oct Seg
def a2 : At := ⟨2, 0, [], 0, 0, 0, 0, 0, []⟩
theorem good_a2 : goodA a2 = true := by decide +kernel
theorem enc_a2 : encA a2 = [64, 1, 1, 0] := by decide +kernel
theorem dec_a2 : outA (decodeA [64, 1, 1, 2]) = (⟨2, 2, [], 0, 0, 0, 0, 0, []⟩, noneN) := by kernel_rfl
theorem own_lit8 (w : World) : U8s (w.alloc (.cells #[.int .u8 64, .int .u8 1, .int .u8 1, .int .u8 2] 5)) (.slice (some ⟨w.heap.size, 0, none⟩) 4 4) [64, 1, 1, 2] :=
  U8s.of_own (base := w.heap.size) (World.ownsRow_lit (base := w.heap.size) (e := 5) (size := 1) w #[.int .u8 64, .int .u8 1, .int .u8 1, .int .u8 2] 4 (Nat.le_refl _) (by decide) rfl) (by unfold Small; decide)
set_option maxRecDepth 100000 in
set_option maxHeartbeats 2000000 in
theorem lives8_any (w : World) (hS : Shp w) : Calls Tryd.prog 20 #[] w (Tells (.bool true) w) := by
  have CE := Go.Lib.hid (show Calls Tryd.prog 43 #[.agg #[.int .i64 2, .int .i64 0, .slice none 0 0, .int .u32 0, .int .u32 0, .int .u32 0, .int .u32 0, .int .u32 0, .slice none 0 0]] w (fun e w' => ∃ A c, e = .returned (.tuple #[.slice A 4 c, .int .i64 0]) ∧ U8s w' (.slice A 4 c) [64, 1, 1, 0] ∧ Below w.heap.size w w') from
    (encode_any _ a2 w ⟨⟨by decide, by decide, by decide, by decide, by decide, by decide, by decide⟩, _, _, rfl, ⟨[], Row.nil w 2, Nums32.nil w⟩, U32s.nil w⟩ hS (by decide)).mono fun e w' h => by
      rcases h with ⟨h1, _⟩ | ⟨_, A, c, h1, h2, h3⟩
      · rw [good_a2] at h1; cases h1
      · rw [enc_a2] at h1 h2
        exact ⟨A, c, h1, U8s.of_own h2 (by unfold Small; decide), h3⟩)
  have CD := Go.Lib.hid (fun (W : World) (hb : Below w.heap.size w W) => show Calls Tryd.prog 22 #[.slice (some ⟨W.heap.size, 0, none⟩) 4 4] (W.alloc (.cells #[.int .u8 64, .int .u8 1, .int .u8 1, .int .u8 2] 5)) (fun e w' => ∃ vp vc vd, e = .returned (.tuple #[.agg #[.int .i64 2, .int .i64 2, vp, .int .u32 0, .int .u32 0, .int .u32 0, .int .u32 0, .int .u32 0, vc], .agg #[.int .i64 0, .int .i64 0, vd]]) ∧ (∃ A n c, vp = .slice A n c) ∧ (∃ A n c, vc = .slice A n c) ∧ (∃ A n c, vd = .slice A n c) ∧ Below W.heap.size W w') from
    (decode_p _ [64, 1, 1, 2] _ (own_lit8 W) (by decide) (hS.keep (hb.alloc hb.size _))).mono fun e w' h => by
      obtain ⟨va, vn, h1, h2, h3, h4⟩ := h
      rw [dec_a2] at h2 h3
      obtain ⟨-, vp, vc, rfl, hP, hC⟩ := h2
      obtain ⟨vd, rfl, hd⟩ := note_form h3
      obtain ⟨Ap, cp, rfl, -, -⟩ := hP.form
      obtain ⟨Ac, cc, rfl, -, -, -, -⟩ := hC.open_
      obtain ⟨Ad, cd, rfl, -, -⟩ := hd.form
      have k : Below W.heap.size W (W.alloc (.cells #[.int .u8 64, .int .u8 1, .int .u8 1, .int .u8 2] 5)) := (Below.refl _ _).alloc (Nat.le_refl _) _
      exact ⟨_, _, _, h1, ⟨_, _, _, rfl⟩, ⟨_, _, _, rfl⟩, ⟨_, _, _, rfl⟩, k.trans (h4.mono k.size)⟩)
  clear hS
  have hs : ((txt [64, 1, 1, 0]).toList == ([64, 1, 1, 0] : List UInt8)) = true := by rw [txt_list]; decide
  go_enter Tryd.func20, Tryd.ntmps20
  go_wp2_with (first
    | (go_at_call 43; refine (CE.out).mono ?_; rintro e w1 ⟨A, c, rfl, hU, hb⟩; have B1 := Go.Lib.hid hb; have U1 := Go.Lib.hid hU; clear hU hb)
    | (go_at_call 22; first | (refine (CD.out _ B1.out).mono ?_; rintro e w2 ⟨vp, vc, vd, rfl, ⟨Ap, np, cp, rfl⟩, ⟨Ac, nc, cc, rfl⟩, ⟨Ad, nd, cd, rfl⟩, hb⟩; have B2 := Go.Lib.hid (hb.trans (((Below.refl _ w2).alloc (Nat.le_refl _) (.cells #[.int .i64 2, .int .i64 2, .slice Ap np cp, .int .u32 0, .int .u32 0, .int .u32 0, .int .u32 0, .int .u32 0, .slice Ac nc cc] 26)).alloc (by simp) (.cells #[.int .i64 0, .int .i64 0, .slice Ad nd cd] 34) |>.mono hb.size)); have t1 := text8 (U1.out.keep B2.out); have n1 : w2.heap.size < w2.heap.size + 1 := Nat.lt_succ_self _; clear hb) | (trace "FELL D"; trace_state; fail_if_success skip)))
  go_ret
  exact ⟨rfl, B1.out.trans (B2.out.mono B1.out.size)⟩
end Go.Proofs.YtanmepgplpijkaaDoor.Att
namespace Go.Proofs.YtanmepgplpijkaaDoor.Att
open Go.RowKit Mem Segm Oct Seg Nums
structure InSt (wr : World) (k : Int) (A : Option Addr) (c i : Nat) (ns : List Nat) (W : World) : Prop where
  blk : W.heap[wr.heap.size]? = some (.cells #[.int .i64 k, .slice A i c] 78)
  own : W.ownsRow (wr.heap.size + 1) 23 1 (.slice A i c) i (ns.map fun n : Nat => Value.int .u32 n)
  low : Below wr.heap.size wr W
section
variable {wr W W2 : World} {k : Int} {A : Option Addr} {c i : Nat} {ns : List Nat}
theorem InSt.lt (h : InSt wr k A c i ns W) : wr.heap.size < W.heap.size := (Array.getElem?_eq_some_iff.1 h.blk).1
theorem InSt.below (h : InSt wr k A c i ns W) (hb : Below W.heap.size W W2) : InSt wr k A c i ns W2 :=
  ⟨(hb.block _ h.lt).trans h.blk, own_keep h.own hb, h.low.trans (hb.mono h.low.size)⟩
theorem InSt.cell (h : InSt wr k A c i ns W) : W.cell? ⟨wr.heap.size, 1, none⟩ = some (.slice A i c) := (cell0 h.blk).2
theorem InSt.start (wr : World) (k : Int) : InSt wr k none 0 0 [] (wr.alloc (.cells #[.int .i64 k, .slice none 0 0] 78)) :=
  ⟨heap_alloc_new _ _, World.ownsRow_nil _ _ _ _, (Below.refl _ _).alloc (Nat.le_refl _) _⟩
theorem InSt.blk8 {W8 : World} {o : Obj} (h : InSt wr k A c i ns W) (hb : Below (wr.heap.size + 1) (W.alloc o) W8) : W8.heap[wr.heap.size]? = some (.cells #[.int .i64 k, .slice A i c] 78) :=
  (hb.block _ (by omega)).trans ((((Below.refl W.heap.size W).alloc (Nat.le_refl _) o).block _ h.lt).trans h.blk)
theorem InSt.push {W8 : World} {o : Obj} {A4 : Option Addr} {c4 y : Nat} (h : InSt wr k A c i ns W) (hb : Below (wr.heap.size + 1) (W.alloc o) W8)
    (ho : W8.ownsRow (wr.heap.size + 1) 23 1 (.slice A4 (i + 1) c4) (i + 1) ((ns.map fun n : Nat => Value.int .u32 n) ++ [.int .u32 y])) :
    InSt wr k A4 c4 (i + 1) (ns ++ [y]) (W8.setCell ⟨wr.heap.size, 1, none⟩ (.slice A4 (i + 1) c4)) := by
  refine ⟨set1 _ (h.blk8 hb), ?_, ?_⟩
  · rw [List.map_append]
    exact own_off ho (fun q hq => Go.RowKit.Below.heap_setCell _ _ _ _ (by show q ≠ wr.heap.size; omega))
  · have h1 := (Below.refl W.heap.size W).alloc (Nat.le_refl _) o
    exact ((h.low.trans (h1.mono h.low.size)).trans (hb.mono (by omega))).setCell (p := ⟨wr.heap.size, 1, none⟩) (Nat.le_refl _) _
end
theorem drop_two {b : List Nat} {j a c : Nat} (ha : b[j]? = some a) (hc : b[j + 1]? = some c) : b.drop j = a :: c :: b.drop (j + 2) := by
  obtain ⟨h1, e1⟩ := List.getElem?_eq_some_iff.1 ha
  obtain ⟨h2, e2⟩ := List.getElem?_eq_some_iff.1 hc
  rw [List.drop_eq_getElem_cons h1, List.drop_eq_getElem_cons h2, e1, e2]
theorem drop_one {b : List Nat} {j : Nat} (h1 : j < b.length) (h2 : b.length < j + 2) : ∃ a, b.drop j = [a] := by
  refine ⟨b[j], ?_⟩
  rw [List.drop_eq_getElem_cons h1, List.drop_of_length_le (by omega)]
theorem own_new {W : World} {base n : Nat} {e : TypeId} {size m : Nat} {v : Value} {xs : List Value} (h : W.ownsRow base e size v m xs) (hn : n ≤ base) : NewAt n v := fun b off m' c e' h0 => Nat.le_trans hn (h.lt b (by rw [e']; rfl)).1
theorem wrap_sum2 {j i t : Nat} (h : t = j + 2 + 4 * i) (hb : t ≤ 1000000) : IntKind.i64.wrap (IntKind.i64.wrap ((j : Int) + 2) + IntKind.i64.wrap (4 * (i : Int))) = (t : Int) := by
  simp only [IntKind.wrap_i64]; omega
theorem wrap_sum6 {j i t : Nat} (h : t = j + 2 + 4 * i) (hb : t ≤ 1000000) {t4 : Nat} (h4 : t4 = t + 4) : IntKind.i64.wrap (IntKind.i64.wrap ((j : Int) + 6) + IntKind.i64.wrap (4 * (i : Int))) = (t4 : Int) := by
  simp only [IntKind.wrap_i64]; omega
theorem two_at {w : World} {l : List Nat} {A : Option Addr} {n c k : Nat} (h : U8s w (.slice A n c) l) (hk : k + 1 < l.length) :
    ∃ b off x y, A = some ⟨b, off, none⟩ ∧ b < w.heap.size ∧ l[k]? = some x ∧ x < 256 ∧ w.cell? ⟨b, off + k, none⟩ = some (.int .u8 x) ∧ l[k + 1]? = some y ∧ y < 256 ∧ w.cell? ⟨b, off + (k + 1), none⟩ = some (.int .u8 y) := by
  obtain ⟨b, off, x, e, h1, h2, h3, h4⟩ := h.at_ (k := k) (by omega)
  obtain ⟨b', off', y, e', -, g2, g3, g4⟩ := h.at_ hk
  rw [e] at e'
  injection e' with e'
  injection e' with e1 e2
  subst e1 e2
  exact ⟨b, off, x, y, e, h1, h2, h3, h4, g2, g3, g4⟩
set_option maxRecDepth 100000 in
set_option maxHeartbeats 8000000 in
theorem refPath_any (v : Value) (b : List Nat) (w : World) (hv : U8s w v b) (hl : b.length ≤ 100000) : Calls Tryd.prog 25 #[v] w (PathF b w) := by
  obtain ⟨ie, E⟩ := elemSeg
  obtain ⟨i3, E3⟩ := elem32
  obtain ⟨Ab, cb, rfl, hlc, hcc⟩ := hv.form
  have HU := Go.Lib.hid hv
  have CN := Go.Lib.hid (fun (v : Value) (i : Nat) (W : World) (h : U8s W v ((b.drop i).take 4)) => num_any v _ W h (List.length_take_le _ _))
  have ST0 := Go.Lib.hid (show OwnSegsF 78 w.heap.size w.heap.size (w.alloc (.cells #[] 78)) (.slice (some ⟨w.heap.size, 0, none⟩) 0 0) [] ∧ Below w.heap.size w (w.alloc (.cells #[] 78)) from ⟨⟨[], World.ownsRow_lit (base := w.heap.size) (e := 78) (size := 2) w #[] 0 (Nat.le_refl _) (Nat.zero_le _) rfl, Nums32.nil _, (fun x hx => by cases hx), FreshQ.nil _⟩, (Below.refl _ _).alloc (Nat.le_refl _) _⟩)
  clear hv
  go_enter Tryd.func25, Tryd.ntmps25
  go_wp2
  go_loopw [4, 5] (fun v4 v5 wx => ∃ (j : Nat) (p : List Piece) (A : Option Addr) (c : Nat), v4 = .slice A p.length c ∧ v5 = .int .i64 j ∧ Hid (j ≤ b.length ∧ p.length ≤ j ∧ pathIs b = (pathIs (b.drop j)).map fun l => p ++ l) ∧ Hid (OwnSegsF 78 w.heap.size w.heap.size wx (.slice A p.length c) p ∧ Below w.heap.size w wx)) (fun _ v5 _ => b.length - (intOf v5).toNat)
  case atStart => exact ⟨0, [], some ⟨w.heap.size, 0, none⟩, 0, rfl, rfl, Go.Lib.hid ⟨Nat.zero_le _, Nat.zero_le _, by simp⟩, ST0⟩
  case round =>
    obtain ⟨j, p, A, c, rfl, rfl, HI, ST⟩ := hrel
    have hj := HI.out.1
    have hpj := HI.out.2.1
    by_cases hlt : j < b.length
    · have z1 : (j : Int) < (b.length : Int) := by omega
      by_cases h2 : j + 2 ≤ b.length
      · have z2 : decide ((b.length : Int) < (j : Int) + 2) = false := decide_eq_false (by omega)
        obtain ⟨blk, off, a, k, rfl, hbl, ha, ha8, ca0, hk, hk8, ck0⟩ := two_at HU.out (k := j) (by omega)
        have CK := Go.Lib.hid (fun (W : World) (h : Below w.heap.size w W) => And.intro (keeps h ca0) (keeps h ck0))
        clear ca0 ck0
        obtain ⟨ca, ck⟩ := CK.out _ ST.out.2
        have HD := Go.Lib.hid (drop_two ha hk)
        have HRL := Go.Lib.hid (show (b.drop (j + 2)).length = b.length - (j + 2) by rw [List.length_drop])
        have z3 : (0 : Int) ≤ (j : Int) + 1 := by omega
        have z4 : (j : Int) + 1 < (b.length : Int) := by omega
        have z5 : (0 : Int) ≤ (j : Int) := by omega
        clear ha hk
        by_cases a0 : a = 0
        · subst a0
          go_wp2
          go_ret2
          refine ⟨ST.out.2, ?_⟩
          rw [HI.out.2.2, HD.out, pathIs_step, if_neg (by first | omega | (rw [HRL.out]; omega))]
          rfl
        by_cases a3 : 2 < a
        · have y1 : decide ((a : Int) < 1) = false := decide_eq_false (by omega)
          have y2 : (a : Int) > 2 := by omega
          go_wp2
          go_ret2
          refine ⟨ST.out.2, ?_⟩
          rw [HI.out.2.2, HD.out, pathIs_step, if_neg (by first | omega | (rw [HRL.out]; omega))]
          rfl
        have y1 : decide ((a : Int) < 1) = false := decide_eq_false (by omega)
        have y2 : decide ((2 : Int) < (a : Int)) = false := decide_eq_false (by omega)
        by_cases k0 : k = 0
        · subst k0
          go_wp2
          go_ret2
          refine ⟨ST.out.2, ?_⟩
          rw [HI.out.2.2, HD.out, pathIs_step, if_neg (by first | omega | (rw [HRL.out]; omega))]
          rfl
        have y3 : ((k : Int) == 0) = false := by simp; omega
        by_cases k4 : j + 2 + 4 * k ≤ b.length
        · have y4 : decide ((b.length : Int) < (j : Int) + 2 + 4 * (k : Int)) = false := decide_eq_false (by omega)
          obtain ⟨W0, rfl⟩ : ∃ W0, W0 = wr := ⟨_, rfl⟩
          have hps := HI.out.2.1
          go_wp2
          go_loopw [7] (fun v7 wx => ∃ (i : Nat) (An : Option Addr) (cn : Nat), i ≤ k ∧ v7 = .int .i64 i ∧ Hid (InSt W0 (a : Int) An cn i (quadsN (b.drop (j + 2)) i) wx)) (fun v7 _ => k - (intOf v7).toNat)
          case atStart => exact ⟨0, none, 0, Nat.zero_le _, rfl, Go.Lib.hid (InSt.start W0 a)⟩
          case round =>
            obtain ⟨i, An, cn, hi, rfl, IS⟩ := hrel
            clear ca ck
            have HB := Go.Lib.hid (ST.out.2.trans (IS.out.low.mono ST.out.2.size))
            obtain ⟨ca, ck⟩ := CK.out _ HB.out
            obtain ⟨s0, s1⟩ := cell0 IS.out.blk
            obtain ⟨f0, f1⟩ := free0 IS.out.blk
            by_cases hik : i < k
            · have z6 : (i : Int) < (k : Int) := by omega
              obtain ⟨t, ht⟩ : ∃ t, t = j + 2 + 4 * i := ⟨_, rfl⟩
              obtain ⟨t4, ht4⟩ : ∃ t4, t4 = t + 4 := ⟨_, rfl⟩
              have HM := Go.Lib.hid (show U8s wr.drew (.slice (some ⟨blk, off + t, none⟩) (t4 - t) (cb - t)) ((b.drop t).take 4) by
                have h := mid8 ((HU.out.keep HB.out).keep (Below.refl _ _).drew) (i := t) (by omega)
                rw [ht4, show t + 4 - t = 4 by omega]
                exact h)
              have HQ := Go.Lib.hid (show quadsN (b.drop (j + 2)) (i + 1) = quadsN (b.drop (j + 2)) i ++ [val ((b.drop t).take 4)] by rw [quadsN_succ, List.drop_drop, ht])
              have z7 : (0 : Int) ≤ (t : Int) := by omega
              have z8 : (t4 : Int) ≤ (b.length : Int) := by omega
              have z9 : (t4 : Int) ≤ (cb : Int) := by omega
              have z10 : ¬ cb = t := by omega
              have z11 : (0 : Int) ≤ (t4 : Int) := by omega
              have z12 : (t : Int) ≤ (t4 : Int) := by omega
              have e1 := wrap_sum2 (j := j) (i := i) (t := t) (by omega) (by omega)
              have e2 := wrap_sum6 (j := j) (i := i) (t := t) (by omega) (by omega) ht4
              clear ht4
              clear ht
              replace IS := Go.Lib.hid (IS.out.below (Below.refl _ _).drew)
              clear s0 s1 f0 f1
              obtain ⟨s0, s1⟩ := cell0 IS.out.blk
              obtain ⟨f0, f1⟩ := free0 IS.out.blk
              go_wp2
              refine wp_region_held_drew (S := fun _ => True) (by kernel_rfl) trivial (fun hHeld1 => ?_)
              refine wpAnyH_take (i := 0) (oi := ⟨some 71, .fieldAddr 78 (.tmp 6) 1, 0, "ref.go:136", #[], none⟩) (v := ?_) rfl (by kernel_rfl) (by kernel_rfl) (by kernel_rfl) (fun _ _ _ h => h) (Or.inl ⟨by rfl, ?_⟩) hHeld1 ?_
              rotate_left
              · (intro w hSw; (try dsimp only at hSw); go_simp)
                try with_reducible rfl
              try simp only [Act.put, List.setIfInBounds_toArray, List.set_cons_zero, List.set_cons_succ]
              refine wpAnyH_take (i := 2) (oi := ⟨some 73, .move (.tmp 0), 32, "ref.go:136", #[], none⟩) (v := ?_) rfl (by kernel_rfl) (by kernel_rfl) (by kernel_rfl) (fun _ _ _ h => h) (Or.inl ⟨by rfl, ?_⟩) hHeld1 ?_
              rotate_left
              · (intro w hSw; (try dsimp only at hSw); go_simp)
                try with_reducible rfl
              try simp only [Act.put, List.setIfInBounds_toArray, List.set_cons_zero, List.set_cons_succ]
              refine wpAnyH_take (i := 3) (oi := ⟨some 74, .move (.tmp 5), 3, "ref.go:136", #[], none⟩) (v := ?_) rfl (by kernel_rfl) (by kernel_rfl) (by kernel_rfl) (fun _ _ _ h => h) (Or.inl ⟨by rfl, ?_⟩) hHeld1 ?_
              rotate_left
              · (intro w hSw; (try dsimp only at hSw); go_simp)
                try with_reducible rfl
              try simp only [Act.put, List.setIfInBounds_toArray, List.set_cons_zero, List.set_cons_succ]
              refine wpAnyH_take (i := 4) (oi := ⟨some 75, .binOp .add 3 (.tmp 74) (.const (.int .i64 2)) 3, 3, "ref.go:136", #[⟨3, .data⟩], none⟩) (v := ?_) rfl (by kernel_rfl) (by kernel_rfl) (by kernel_rfl) (fun _ _ _ h => h) (Or.inl ⟨by rfl, ?_⟩) hHeld1 ?_
              rotate_left
              · (intro w hSw; (try dsimp only at hSw); go_simp)
                try with_reducible rfl
              try simp only [Act.put, List.setIfInBounds_toArray, List.set_cons_zero, List.set_cons_succ]
              refine wpAnyH_take (i := 5) (oi := ⟨some 76, .move (.tmp 7), 3, "ref.go:136", #[], none⟩) (v := ?_) rfl (by kernel_rfl) (by kernel_rfl) (by kernel_rfl) (fun _ _ _ h => h) (Or.inl ⟨by rfl, ?_⟩) hHeld1 ?_
              rotate_left
              · (intro w hSw; (try dsimp only at hSw); go_simp)
                try with_reducible rfl
              try simp only [Act.put, List.setIfInBounds_toArray, List.set_cons_zero, List.set_cons_succ]
              refine wpAnyH_take (i := 6) (oi := ⟨some 77, .binOp .mul 3 (.const (.int .i64 4)) (.tmp 76) 3, 3, "ref.go:136", #[⟨5, .data⟩], none⟩) (v := ?_) rfl (by kernel_rfl) (by kernel_rfl) (by kernel_rfl) (fun _ _ _ h => h) (Or.inl ⟨by rfl, ?_⟩) hHeld1 ?_
              rotate_left
              · (intro w hSw; (try dsimp only at hSw); go_simp)
                try with_reducible rfl
              try simp only [Act.put, List.setIfInBounds_toArray, List.set_cons_zero, List.set_cons_succ]
              refine wpAnyH_take (i := 7) (oi := ⟨some 78, .binOp .add 3 (.tmp 75) (.tmp 77) 3, 3, "ref.go:136", #[⟨4, .data⟩, ⟨6, .data⟩], none⟩) (v := ?_) rfl (by kernel_rfl) (by kernel_rfl) (by kernel_rfl) (fun _ _ _ h => h) (Or.inl ⟨by rfl, ?_⟩) hHeld1 ?_
              rotate_left
              · (intro w hSw; (try dsimp only at hSw); go_simp)
                try with_reducible rfl
              try simp only [Act.put, List.setIfInBounds_toArray, List.set_cons_zero, List.set_cons_succ]
              refine wpAnyH_take (i := 8) (oi := ⟨some 79, .move (.tmp 5), 3, "ref.go:136", #[], none⟩) (v := ?_) rfl (by kernel_rfl) (by kernel_rfl) (by kernel_rfl) (fun _ _ _ h => h) (Or.inl ⟨by rfl, ?_⟩) hHeld1 ?_
              rotate_left
              · (intro w hSw; (try dsimp only at hSw); go_simp)
                try with_reducible rfl
              try simp only [Act.put, List.setIfInBounds_toArray, List.set_cons_zero, List.set_cons_succ]
              refine wpAnyH_take (i := 9) (oi := ⟨some 80, .binOp .add 3 (.tmp 79) (.const (.int .i64 6)) 3, 3, "ref.go:136", #[⟨8, .data⟩], none⟩) (v := ?_) rfl (by kernel_rfl) (by kernel_rfl) (by kernel_rfl) (fun _ _ _ h => h) (Or.inl ⟨by rfl, ?_⟩) hHeld1 ?_
              rotate_left
              · (intro w hSw; (try dsimp only at hSw); go_simp)
                try with_reducible rfl
              try simp only [Act.put, List.setIfInBounds_toArray, List.set_cons_zero, List.set_cons_succ]
              refine wpAnyH_take (i := 10) (oi := ⟨some 81, .move (.tmp 7), 3, "ref.go:136", #[], none⟩) (v := ?_) rfl (by kernel_rfl) (by kernel_rfl) (by kernel_rfl) (fun _ _ _ h => h) (Or.inl ⟨by rfl, ?_⟩) hHeld1 ?_
              rotate_left
              · (intro w hSw; (try dsimp only at hSw); go_simp)
                try with_reducible rfl
              try simp only [Act.put, List.setIfInBounds_toArray, List.set_cons_zero, List.set_cons_succ]
              refine wpAnyH_take (i := 11) (oi := ⟨some 82, .binOp .mul 3 (.const (.int .i64 4)) (.tmp 81) 3, 3, "ref.go:136", #[⟨10, .data⟩], none⟩) (v := ?_) rfl (by kernel_rfl) (by kernel_rfl) (by kernel_rfl) (fun _ _ _ h => h) (Or.inl ⟨by rfl, ?_⟩) hHeld1 ?_
              rotate_left
              · (intro w hSw; (try dsimp only at hSw); go_simp)
                try with_reducible rfl
              try simp only [Act.put, List.setIfInBounds_toArray, List.set_cons_zero, List.set_cons_succ]
              refine wpAnyH_take (i := 12) (oi := ⟨some 83, .binOp .add 3 (.tmp 80) (.tmp 82) 3, 3, "ref.go:136", #[⟨9, .data⟩, ⟨11, .data⟩], none⟩) (v := ?_) rfl (by kernel_rfl) (by kernel_rfl) (by kernel_rfl) (fun _ _ _ h => h) (Or.inl ⟨by rfl, ?_⟩) hHeld1 ?_
              rotate_left
              · (intro w hSw; (try dsimp only at hSw); go_simp)
                try with_reducible rfl
              try simp only [Act.put, List.setIfInBounds_toArray, List.set_cons_zero, List.set_cons_succ]
              refine wpAnyH_take (i := 13) (oi := ⟨some 84, .slice 32 (.tmp 73) (some (.tmp 78)) (some (.tmp 83)) none, 32, "ref.go:136", #[⟨2, .data⟩, ⟨7, .data⟩, ⟨12, .data⟩], none⟩) (v := ?_) rfl (by kernel_rfl) (by kernel_rfl) (by kernel_rfl) (fun _ _ _ h => h) (Or.inl ⟨by rfl, ?_⟩) hHeld1 ?_
              rotate_left
              · (intro w hSw; (try dsimp only at hSw); go_simp)
                try with_reducible rfl
              try simp only [Act.put, List.setIfInBounds_toArray, List.set_cons_zero, List.set_cons_succ]
              refine wpAnyH_ready (rs := [1, 14]) (by kernel_rfl) (by simp) ?_
              refine AllReadyH.cons (o := ⟨some 72, .load 24 (.tmp 71), 24, "ref.go:136", #[⟨0, .data⟩], none⟩) rfl (fun K hK => ?_) (AllReadyH.cons (o := ⟨some 85, .call { callee := .value (.func 50), args := #[.tmp 84], argTypes := #[32] }, 23, "ref.go:136", #[⟨13, .data⟩], none⟩) rfl (fun K hK => ?_) AllReadyH.nil)
              · go_simp
                refine hK.out _ _ trivial (fun hHeld2 => ?_)
                clear hK K
                try simp only [Act.put, List.setIfInBounds_toArray, List.set_cons_zero, List.set_cons_succ]
                refine wpAnyH_ready (rs := [14]) (by kernel_rfl) (by simp) ?_
                refine AllReadyH.cons (o := ⟨some 85, .call { callee := .value (.func 50), args := #[.tmp 84], argTypes := #[32] }, 23, "ref.go:136", #[⟨13, .data⟩], none⟩) rfl (fun K hK => ?_) AllReadyH.nil
                go_simp
                go_at_call 50
                refine (CN.out _ t _ HM.out).mono ?_
                rintro e x ⟨rfl, hx⟩
                replace IS := Go.Lib.hid (IS.out.below hx)
                clear hx s0 s1 f0 f1
                obtain ⟨s0, s1⟩ := cell0 IS.out.blk
                (try go_wp2_with fail)
                refine hK.out _ _ trivial (fun hHeld3 => ?_)
                clear hK K
                try simp only [Act.put, List.setIfInBounds_toArray, List.set_cons_zero, List.set_cons_succ]
                refine wpAnyH_ready (rs := [15]) (by kernel_rfl) (by simp) ?_
                refine AllReadyH.cons (o := ⟨some 86, .buildSlice 24 1 #[(0, .tmp 85)], 24, "ref.go:136", #[⟨14, .data⟩], none⟩) rfl (fun K hK => ?_) AllReadyH.nil
                go_simp
                refine hK.out _ _ trivial (fun hHeld4 => ?_)
                clear hK K
                try simp only [Act.put, List.setIfInBounds_toArray, List.set_cons_zero, List.set_cons_succ]
                have b9 := (Below.refl x.heap.size x).alloc (Nat.le_refl _) (.cells #[.int .u32 (val ((b.drop t).take 4) : Nat)] 23)
                replace s1 := keeps b9 s1
                refine wpAnyH_ready (rs := [16]) (by kernel_rfl) (by simp) ?_
                refine AllReadyH.cons (o := ⟨some 87, .call { callee := .builtin .append, args := #[.tmp 72, .tmp 86], argTypes := #[24, 24] }, 24, "ref.go:136", #[⟨1, .data⟩, ⟨15, .data⟩, ⟨14, .chain⟩], none⟩) rfl (fun K hK => ?_) AllReadyH.nil
                refine step_append_row (by rfl) (.tmp 72) (.tmp 86) (by rfl) E3 (W0.heap.size + 1) (.slice An i cn) i ((quadsN (b.drop (j + 2)) i).map fun n : Nat => Value.int .u32 n) (by rfl) ?_ _ 1 [.int .u32 (val ((b.drop t).take 4) : Nat)] (by rfl) ?_ (one_u32 _) ?_ ?_ ?_ (i + 1) (by rfl) ?_
                · exact own_keep IS.out.own b9
                · exact Row.one _ _ _
                · unfold maxLen; omega
                · omega
                · have := IS.out.lt; simp; omega
                intro A4 c4 w8 hown4 hg4 hat4 hb4
                have IS8 := Go.Lib.hid (IS.out.push hb4 hown4)
                have B8 := Go.Lib.hid (IS.out.blk8 hb4)
                clear hown4 hg4 hat4 hb4 s0 s1
                obtain ⟨s0, s1⟩ := cell0 B8.out
                obtain ⟨f0, f1⟩ := free0 B8.out
                refine hK.out _ _ trivial (fun hHeld6 => ?_)
                clear hK K
                try simp only [Act.put, List.setIfInBounds_toArray, List.set_cons_zero, List.set_cons_succ]
                refine wpAnyH_take (i := 17) (oi := ⟨some 88, .fieldAddr 78 (.tmp 6) 1, 0, "ref.go:136", #[⟨0, .phase⟩, ⟨1, .phase⟩, ⟨2, .phase⟩, ⟨3, .phase⟩, ⟨4, .phase⟩, ⟨5, .phase⟩, ⟨6, .phase⟩, ⟨7, .phase⟩, ⟨8, .phase⟩, ⟨9, .phase⟩, ⟨10, .phase⟩, ⟨11, .phase⟩, ⟨12, .phase⟩, ⟨13, .phase⟩, ⟨14, .phase⟩, ⟨15, .phase⟩, ⟨16, .phase⟩], none⟩) (v := ?_) rfl (by kernel_rfl) (by kernel_rfl) (by kernel_rfl) (fun _ _ _ h => h) (Or.inl ⟨by rfl, ?_⟩) hHeld6 ?_
                rotate_left
                · (intro w hSw; (try dsimp only at hSw); go_simp)
                  try with_reducible rfl
                try simp only [Act.put, List.setIfInBounds_toArray, List.set_cons_zero, List.set_cons_succ]
                refine wpAnyH_ready (rs := [18]) (by kernel_rfl) (by simp) ?_
                refine AllReadyH.cons (o := ⟨none, .store 24 (.tmp 88) (.tmp 87), 0, "ref.go:136", #[⟨17, .data⟩, ⟨16, .data⟩, ⟨16, .chain⟩, ⟨0, .phase⟩, ⟨1, .phase⟩, ⟨2, .phase⟩, ⟨3, .phase⟩, ⟨4, .phase⟩, ⟨5, .phase⟩, ⟨6, .phase⟩, ⟨7, .phase⟩, ⟨8, .phase⟩, ⟨9, .phase⟩, ⟨10, .phase⟩, ⟨11, .phase⟩, ⟨12, .phase⟩, ⟨13, .phase⟩, ⟨14, .phase⟩, ⟨15, .phase⟩, ⟨16, .phase⟩], none⟩) rfl (fun K hK => ?_) AllReadyH.nil
                go_simp
                refine hK.out _ _ trivial (fun hHeld7 => ?_)
                clear hK K
                try simp only [Act.put, List.setIfInBounds_toArray, List.set_cons_zero, List.set_cons_succ]
                refine wpAnyH_done (by kernel_rfl) ?_ _
                go_wp2
                go_roundw
                case rel => exact ⟨i + 1, A4, c4, by omega, by go_num, Go.Lib.hid (by rw [HQ.out]; exact IS8.out)⟩
                case measure => simp [intOf]; omega
              · go_simp
                go_at_call 50
                refine (CN.out _ t _ HM.out).mono ?_
                rintro e x ⟨rfl, hx⟩
                replace IS := Go.Lib.hid (IS.out.below hx)
                clear hx s0 s1 f0 f1
                obtain ⟨s0, s1⟩ := cell0 IS.out.blk
                (try go_wp2_with fail)
                refine hK.out _ _ trivial (fun hHeld8 => ?_)
                clear hK K
                try simp only [Act.put, List.setIfInBounds_toArray, List.set_cons_zero, List.set_cons_succ]
                refine wpAnyH_ready (rs := [1, 15]) (by kernel_rfl) (by simp) ?_
                refine AllReadyH.cons (o := ⟨some 72, .load 24 (.tmp 71), 24, "ref.go:136", #[⟨0, .data⟩], none⟩) rfl (fun K hK => ?_) (AllReadyH.cons (o := ⟨some 86, .buildSlice 24 1 #[(0, .tmp 85)], 24, "ref.go:136", #[⟨14, .data⟩], none⟩) rfl (fun K hK => ?_) AllReadyH.nil)
                · go_simp
                  refine hK.out _ _ trivial (fun hHeld9 => ?_)
                  clear hK K
                  try simp only [Act.put, List.setIfInBounds_toArray, List.set_cons_zero, List.set_cons_succ]
                  refine wpAnyH_ready (rs := [15]) (by kernel_rfl) (by simp) ?_
                  refine AllReadyH.cons (o := ⟨some 86, .buildSlice 24 1 #[(0, .tmp 85)], 24, "ref.go:136", #[⟨14, .data⟩], none⟩) rfl (fun K hK => ?_) AllReadyH.nil
                  go_simp
                  refine hK.out _ _ trivial (fun hHeld10 => ?_)
                  clear hK K
                  try simp only [Act.put, List.setIfInBounds_toArray, List.set_cons_zero, List.set_cons_succ]
                  have b9 := (Below.refl x.heap.size x).alloc (Nat.le_refl _) (.cells #[.int .u32 (val ((b.drop t).take 4) : Nat)] 23)
                  replace s1 := keeps b9 s1
                  refine wpAnyH_ready (rs := [16]) (by kernel_rfl) (by simp) ?_
                  refine AllReadyH.cons (o := ⟨some 87, .call { callee := .builtin .append, args := #[.tmp 72, .tmp 86], argTypes := #[24, 24] }, 24, "ref.go:136", #[⟨1, .data⟩, ⟨15, .data⟩, ⟨14, .chain⟩], none⟩) rfl (fun K hK => ?_) AllReadyH.nil
                  refine step_append_row (by rfl) (.tmp 72) (.tmp 86) (by rfl) E3 (W0.heap.size + 1) (.slice An i cn) i ((quadsN (b.drop (j + 2)) i).map fun n : Nat => Value.int .u32 n) (by rfl) ?_ _ 1 [.int .u32 (val ((b.drop t).take 4) : Nat)] (by rfl) ?_ (one_u32 _) ?_ ?_ ?_ (i + 1) (by rfl) ?_
                  · exact own_keep IS.out.own b9
                  · exact Row.one _ _ _
                  · unfold maxLen; omega
                  · omega
                  · have := IS.out.lt; simp; omega
                  intro A4 c4 w8 hown4 hg4 hat4 hb4
                  have IS8 := Go.Lib.hid (IS.out.push hb4 hown4)
                  have B8 := Go.Lib.hid (IS.out.blk8 hb4)
                  clear hown4 hg4 hat4 hb4 s0 s1
                  obtain ⟨s0, s1⟩ := cell0 B8.out
                  obtain ⟨f0, f1⟩ := free0 B8.out
                  refine hK.out _ _ trivial (fun hHeld12 => ?_)
                  clear hK K
                  try simp only [Act.put, List.setIfInBounds_toArray, List.set_cons_zero, List.set_cons_succ]
                  refine wpAnyH_take (i := 17) (oi := ⟨some 88, .fieldAddr 78 (.tmp 6) 1, 0, "ref.go:136", #[⟨0, .phase⟩, ⟨1, .phase⟩, ⟨2, .phase⟩, ⟨3, .phase⟩, ⟨4, .phase⟩, ⟨5, .phase⟩, ⟨6, .phase⟩, ⟨7, .phase⟩, ⟨8, .phase⟩, ⟨9, .phase⟩, ⟨10, .phase⟩, ⟨11, .phase⟩, ⟨12, .phase⟩, ⟨13, .phase⟩, ⟨14, .phase⟩, ⟨15, .phase⟩, ⟨16, .phase⟩], none⟩) (v := ?_) rfl (by kernel_rfl) (by kernel_rfl) (by kernel_rfl) (fun _ _ _ h => h) (Or.inl ⟨by rfl, ?_⟩) hHeld12 ?_
                  rotate_left
                  · (intro w hSw; (try dsimp only at hSw); go_simp)
                    try with_reducible rfl
                  try simp only [Act.put, List.setIfInBounds_toArray, List.set_cons_zero, List.set_cons_succ]
                  refine wpAnyH_ready (rs := [18]) (by kernel_rfl) (by simp) ?_
                  refine AllReadyH.cons (o := ⟨none, .store 24 (.tmp 88) (.tmp 87), 0, "ref.go:136", #[⟨17, .data⟩, ⟨16, .data⟩, ⟨16, .chain⟩, ⟨0, .phase⟩, ⟨1, .phase⟩, ⟨2, .phase⟩, ⟨3, .phase⟩, ⟨4, .phase⟩, ⟨5, .phase⟩, ⟨6, .phase⟩, ⟨7, .phase⟩, ⟨8, .phase⟩, ⟨9, .phase⟩, ⟨10, .phase⟩, ⟨11, .phase⟩, ⟨12, .phase⟩, ⟨13, .phase⟩, ⟨14, .phase⟩, ⟨15, .phase⟩, ⟨16, .phase⟩], none⟩) rfl (fun K hK => ?_) AllReadyH.nil
                  go_simp
                  refine hK.out _ _ trivial (fun hHeld13 => ?_)
                  clear hK K
                  try simp only [Act.put, List.setIfInBounds_toArray, List.set_cons_zero, List.set_cons_succ]
                  refine wpAnyH_done (by kernel_rfl) ?_ _
                  go_wp2
                  go_roundw
                  case rel => exact ⟨i + 1, A4, c4, by omega, by go_num, Go.Lib.hid (by rw [HQ.out]; exact IS8.out)⟩
                  case measure => simp [intOf]; omega
                · go_simp
                  refine hK.out _ _ trivial (fun hHeld14 => ?_)
                  clear hK K
                  try simp only [Act.put, List.setIfInBounds_toArray, List.set_cons_zero, List.set_cons_succ]
                  have b9 := (Below.refl x.heap.size x).alloc (Nat.le_refl _) (.cells #[.int .u32 (val ((b.drop t).take 4) : Nat)] 23)
                  replace s1 := keeps b9 s1
                  refine wpAnyH_ready (rs := [1]) (by kernel_rfl) (by simp) ?_
                  refine AllReadyH.cons (o := ⟨some 72, .load 24 (.tmp 71), 24, "ref.go:136", #[⟨0, .data⟩], none⟩) rfl (fun K hK => ?_) AllReadyH.nil
                  go_simp
                  refine hK.out _ _ trivial (fun hHeld15 => ?_)
                  clear hK K
                  try simp only [Act.put, List.setIfInBounds_toArray, List.set_cons_zero, List.set_cons_succ]
                  refine wpAnyH_ready (rs := [16]) (by kernel_rfl) (by simp) ?_
                  refine AllReadyH.cons (o := ⟨some 87, .call { callee := .builtin .append, args := #[.tmp 72, .tmp 86], argTypes := #[24, 24] }, 24, "ref.go:136", #[⟨1, .data⟩, ⟨15, .data⟩, ⟨14, .chain⟩], none⟩) rfl (fun K hK => ?_) AllReadyH.nil
                  refine step_append_row (by rfl) (.tmp 72) (.tmp 86) (by rfl) E3 (W0.heap.size + 1) (.slice An i cn) i ((quadsN (b.drop (j + 2)) i).map fun n : Nat => Value.int .u32 n) (by rfl) ?_ _ 1 [.int .u32 (val ((b.drop t).take 4) : Nat)] (by rfl) ?_ (one_u32 _) ?_ ?_ ?_ (i + 1) (by rfl) ?_
                  · exact own_keep IS.out.own b9
                  · exact Row.one _ _ _
                  · unfold maxLen; omega
                  · omega
                  · have := IS.out.lt; simp; omega
                  intro A4 c4 w8 hown4 hg4 hat4 hb4
                  have IS8 := Go.Lib.hid (IS.out.push hb4 hown4)
                  have B8 := Go.Lib.hid (IS.out.blk8 hb4)
                  clear hown4 hg4 hat4 hb4 s0 s1
                  obtain ⟨s0, s1⟩ := cell0 B8.out
                  obtain ⟨f0, f1⟩ := free0 B8.out
                  refine hK.out _ _ trivial (fun hHeld17 => ?_)
                  clear hK K
                  try simp only [Act.put, List.setIfInBounds_toArray, List.set_cons_zero, List.set_cons_succ]
                  refine wpAnyH_take (i := 17) (oi := ⟨some 88, .fieldAddr 78 (.tmp 6) 1, 0, "ref.go:136", #[⟨0, .phase⟩, ⟨1, .phase⟩, ⟨2, .phase⟩, ⟨3, .phase⟩, ⟨4, .phase⟩, ⟨5, .phase⟩, ⟨6, .phase⟩, ⟨7, .phase⟩, ⟨8, .phase⟩, ⟨9, .phase⟩, ⟨10, .phase⟩, ⟨11, .phase⟩, ⟨12, .phase⟩, ⟨13, .phase⟩, ⟨14, .phase⟩, ⟨15, .phase⟩, ⟨16, .phase⟩], none⟩) (v := ?_) rfl (by kernel_rfl) (by kernel_rfl) (by kernel_rfl) (fun _ _ _ h => h) (Or.inl ⟨by rfl, ?_⟩) hHeld17 ?_
                  rotate_left
                  · (intro w hSw; (try dsimp only at hSw); go_simp)
                    try with_reducible rfl
                  try simp only [Act.put, List.setIfInBounds_toArray, List.set_cons_zero, List.set_cons_succ]
                  refine wpAnyH_ready (rs := [18]) (by kernel_rfl) (by simp) ?_
                  refine AllReadyH.cons (o := ⟨none, .store 24 (.tmp 88) (.tmp 87), 0, "ref.go:136", #[⟨17, .data⟩, ⟨16, .data⟩, ⟨16, .chain⟩, ⟨0, .phase⟩, ⟨1, .phase⟩, ⟨2, .phase⟩, ⟨3, .phase⟩, ⟨4, .phase⟩, ⟨5, .phase⟩, ⟨6, .phase⟩, ⟨7, .phase⟩, ⟨8, .phase⟩, ⟨9, .phase⟩, ⟨10, .phase⟩, ⟨11, .phase⟩, ⟨12, .phase⟩, ⟨13, .phase⟩, ⟨14, .phase⟩, ⟨15, .phase⟩, ⟨16, .phase⟩], none⟩) rfl (fun K hK => ?_) AllReadyH.nil
                  go_simp
                  refine hK.out _ _ trivial (fun hHeld18 => ?_)
                  clear hK K
                  try simp only [Act.put, List.setIfInBounds_toArray, List.set_cons_zero, List.set_cons_succ]
                  refine wpAnyH_done (by kernel_rfl) ?_ _
                  go_wp2
                  go_roundw
                  case rel => exact ⟨i + 1, A4, c4, by omega, by go_num, Go.Lib.hid (by rw [HQ.out]; exact IS8.out)⟩
                  case measure => simp [intOf]; omega
            · have hik2 : k = i := by omega
              subst hik2
              have z6 : decide ((k : Int) < (k : Int)) = false := decide_eq_false (by omega)
              have HN := Go.Lib.hid (fresh_apart ST.out.1 ST.out.2.size (own_new IS.out.own (by omega)))
              have HX := Go.Lib.hid (U32s.of_own (l := quadsN (b.drop (j + 2)) k) (by rw [quadsN_len]; exact IS.out.own) (quads_lt (HU.out.2.drop _) _))
              obtain ⟨q, o1, o2, o3, o4⟩ := ST.out.1.keep IS.out.low
              have O2 := Go.Lib.hid (And.intro o2 (And.intro o3 o4))
              clear o2 o3 o4
              go_wp2_with (at_builtin; first | (refine wpList_append_row rfl (.tmp 89) (.tmp 91) rfl E w.heap.size _ p.length (segCells p q) rfl (o1.alloc _) _ 1 [.int .i64 a, .slice An k cn] rfl (row_seg_at _ _ _ _ rfl) (ones_two _ _ _ _) (by unfold maxLen; omega) (by omega) (by have := HB.out.size; simp; omega) (p.length + 1) rfl ?_; intro A2 c2 w2 hown2 hg2 hat2 hb2; have S6 := Go.Lib.hid (segs_push (l := quadsN (b.drop (j + 2)) k) O2.out.1 O2.out.2.2 O2.out.2.1 HX.out HN.out rfl hown2 hg2 hat2); have HB6 := Go.Lib.hid ((HB.out.alloc HB.out.size _).trans hb2); clear o1 hown2 hg2 hat2 hb2 ca ck s0 s1 f0 f1; obtain ⟨ca, ck⟩ := CK.out _ HB6.out) | (trace "FELL A"; trace_state; fail_if_success skip))
              go_roundw
              case rel =>
                refine ⟨j + 2 + 4 * k, p ++ [((a : Int), quadsN (b.drop (j + 2)) k)], A2, c2, by rw [List.length_append]; rfl, by go_num, Go.Lib.hid ⟨k4, by rw [List.length_append]; simp; omega, ?_⟩, Go.Lib.hid ⟨by rw [List.length_append]; exact S6.out, HB6.out⟩⟩
                rw [HI.out.2.2, HD.out, pathIs_step, if_pos ⟨by omega, k0, by rw [HRL.out]; omega⟩, List.drop_drop]
                cases pathIs (b.drop (j + 2 + 4 * k)) <;> simp
              case measure => simp [intOf]; omega
        · have y4 : (j : Int) + 2 + 4 * (k : Int) > (b.length : Int) := by omega
          go_wp2
          go_ret2
          refine ⟨ST.out.2, ?_⟩
          rw [HI.out.2.2, HD.out, pathIs_step, if_neg (by first | omega | (rw [HRL.out]; omega))]
          rfl
      · have z2 : (j : Int) + 2 > (b.length : Int) := by omega
        go_wp2
        go_ret2
        refine ⟨ST.out.2, ?_⟩
        obtain ⟨x, hx⟩ := drop_one (b := b) (j := j) (by exact hlt) (by omega)
        rw [HI.out.2.2, hx, pathIs_one]
        rfl
    · have hjL : j = b.length := by omega
      have z1 : decide ((j : Int) < (j : Int)) = false := by simp
      go_wp2
      go_ret2
      refine ⟨ST.out.2, ?_⟩
      rw [HI.out.2.2, List.drop_of_length_le (by omega), pathIs_nil]
      show ∃ v, Ending.returned (.tuple #[.slice A p.length c, .bool true]) = .returned (.tuple #[v, .bool true]) ∧ OwnSegsF 78 w.heap.size w.heap.size wr v (p ++ [])
      rw [List.append_nil]
      exact ⟨_, rfl, ST.out.1⟩
end Go.Proofs.YtanmepgplpijkaaDoor.Att
