/- The reference's Decode. -/
import Derived.Test.YtlhdjdnflpilbaaGreatDoorG03
import Derived.Test.YtlhdjdnflpilbaaGreatDoorG46
import Derived.Test.YtlhdjdnflpilbaaGreatDoorG44
import Derived.Test.YtlhdjdnflpilbaaGreatDoorG07
import Derived.Deep.DeepCutAuto
namespace Go.Proofs.YtlhdjdnflpilbaaGreatDoor.Att
open Go.RowKit Mem Segm Oct Seg
structure RdSt (w0 : World) (seen : List Nat) (a : At) (W : World) : Prop where
  r9 : Box9 W w0.heap.size 27 (.int .i64 0) (.int .i64 0) (.slice none 0 0) (.int .u32 0) (.int .u32 0) (.int .u32 0) (.int .u32 0) (.int .u32 0) (.slice none 0 0)
  n3 : Box3 W (w0.heap.size + 1) 41 (.int .i64 0) (.int .i64 0) (.slice none 0 0)
  box : BoxA W (w0.heap.size + 2) (w0.heap.size + 6) a
  no9 : Box9 W (w0.heap.size + 3) 27 (.int .i64 0) (.int .i64 0) (.slice none 0 0) (.int .u32 0) (.int .u32 0) (.int .u32 0) (.int .u32 0) (.int .u32 0) (.slice none 0 0)
  ls : Box3 W (w0.heap.size + 4) 41 (.int .i64 3) (.int .i64 1) (.slice none 0 0)
  sn : W.heap[w0.heap.size + 5]? = some (.cells (seenA seen) 109)
  low : Below w0.heap.size w0 W
section
variable {w0 W W2 : World} {seen : List Nat} {a a2 : At}
theorem RdSt.size (h : RdSt w0 seen a W) : w0.heap.size + 6 ≤ W.heap.size := h.box.lt.2
theorem RdSt.below (h : RdSt w0 seen a W) (hb : Below W.heap.size W W2) : RdSt w0 seen a W2 :=
  ⟨h.r9.keep hb, h.n3.keep hb, h.box.below hb, h.no9.keep hb, h.ls.keep hb, (hb.block _ (by have := h.size; omega)).trans h.sn, h.low.trans (hb.mono h.low.size)⟩
theorem RdSt.fill (h : RdSt w0 seen a W) (ho : Only (fun q => q = w0.heap.size + 2) W W2) (hA : BoxA W2 (w0.heap.size + 2) (w0.heap.size + 6) a2) : RdSt w0 seen a2 W2 := by
  have hs := h.size
  exact ⟨⟨(ho.block _ (by omega) (by omega)).trans h.r9.blk⟩, ⟨(ho.block _ (by omega) (by omega)).trans h.n3.blk⟩, hA, ⟨(ho.block _ (by omega) (by omega)).trans h.no9.blk⟩, ⟨(ho.block _ (by omega) (by omega)).trans h.ls.blk⟩, (ho.block _ (by omega) (by omega)).trans h.sn, h.low.trans (ho.below (fun k e => by subst e; omega) h.low.size)⟩
structure Lost (w0 W : World) : Prop where
  r9 : Box9 W w0.heap.size 27 (.int .i64 0) (.int .i64 0) (.slice none 0 0) (.int .u32 0) (.int .u32 0) (.int .u32 0) (.int .u32 0) (.int .u32 0) (.slice none 0 0)
  n3 : Box3 W (w0.heap.size + 1) 41 (.int .i64 0) (.int .i64 0) (.slice none 0 0)
  no9 : Box9 W (w0.heap.size + 3) 27 (.int .i64 0) (.int .i64 0) (.slice none 0 0) (.int .u32 0) (.int .u32 0) (.int .u32 0) (.int .u32 0) (.int .u32 0) (.slice none 0 0)
  low : Below w0.heap.size w0 W
theorem RdSt.lost (h : RdSt w0 seen a W) (ho : Only (fun q => q = w0.heap.size + 2) W W2) : Lost w0 W2 := by
  have hs := h.size
  exact ⟨⟨(ho.block _ (by omega) (by omega)).trans h.r9.blk⟩, ⟨(ho.block _ (by omega) (by omega)).trans h.n3.blk⟩, ⟨(ho.block _ (by omega) (by omega)).trans h.no9.blk⟩, h.low.trans (ho.below (fun k e => by subst e; omega) h.low.size)⟩
theorem Lost.below (h : Lost w0 W) (hb : Below W.heap.size W W2) : Lost w0 W2 := ⟨h.r9.keep hb, h.n3.keep hb, h.no9.keep hb, h.low.trans (hb.mono h.low.size)⟩
theorem RdSt.mark (h : RdSt w0 seen a W) {k : Nat} (hk : k < 256) : RdSt w0 (k :: seen) a (W.setCell ⟨w0.heap.size + 5, k, none⟩ (.bool true)) := by
  have hs := h.size
  have ho : Only (fun q => q = w0.heap.size + 5) W (W.setCell ⟨w0.heap.size + 5, k, none⟩ (.bool true)) := Only.set (F := fun q => q = w0.heap.size + 5) (b := w0.heap.size + 5) (i := k) (Only.refl _ _) rfl _
  refine ⟨⟨(ho.block _ (by omega) (by omega)).trans h.r9.blk⟩, ⟨(ho.block _ (by omega) (by omega)).trans h.n3.blk⟩, h.box.on ho (fun k e => by subst e; omega), ⟨(ho.block _ (by omega) (by omega)).trans h.no9.blk⟩, ⟨(ho.block _ (by omega) (by omega)).trans h.ls.blk⟩, ?_, h.low.trans (ho.below (fun k e => by subst e; omega) h.low.size)⟩
  rw [Go.Joins.block_setCell h.sn, seenA_set seen hk]
theorem RdSt.seen_cell (h : RdSt w0 seen a W) {k : Nat} (hk : k < 256) : W.cell? ⟨w0.heap.size + 5, k, none⟩ = some (.bool (decide (k ∈ seen))) ∧ W.frozen? ⟨w0.heap.size + 5, k, none⟩ = false := by
  refine ⟨?_, Go.Joins.unfrozen_of_block h.sn k⟩
  have := seenA_at seen hk
  simp only [World.cell?, h.sn]
  simpa using this
end
theorem rd_boxes (w : World) : RdSt w [] zeroA ((((((w.alloc (.cells #[.int .i64 0, .int .i64 0, .slice none 0 0, .int .u32 0, .int .u32 0, .int .u32 0, .int .u32 0, .int .u32 0, .slice none 0 0] 27)).alloc (.cells #[.int .i64 0, .int .i64 0, .slice none 0 0] 41)).alloc (.cells #[.int .i64 0, .int .i64 0, .slice none 0 0, .int .u32 0, .int .u32 0, .int .u32 0, .int .u32 0, .int .u32 0, .slice none 0 0] 27)).alloc (.cells #[.int .i64 0, .int .i64 0, .slice none 0 0, .int .u32 0, .int .u32 0, .int .u32 0, .int .u32 0, .int .u32 0, .slice none 0 0] 27)).alloc (.cells #[.int .i64 3, .int .i64 1, .slice none 0 0] 41)).alloc (.cells Tryz.zeroCells109 109)) := by
  have h1 := Box9.new w 27 (.int .i64 0) (.int .i64 0) (.slice none 0 0) (.int .u32 0) (.int .u32 0) (.int .u32 0) (.int .u32 0) (.int .u32 0) (.slice none 0 0)
  have b1 : Below w.heap.size w (w.alloc (.cells #[.int .i64 0, .int .i64 0, .slice none 0 0, .int .u32 0, .int .u32 0, .int .u32 0, .int .u32 0, .int .u32 0, .slice none 0 0] 27)) := (Below.refl _ _).alloc (Nat.le_refl _) _
  have e1 : (w.alloc (.cells #[.int .i64 0, .int .i64 0, .slice none 0 0, .int .u32 0, .int .u32 0, .int .u32 0, .int .u32 0, .int .u32 0, .slice none 0 0] 27)).heap.size = w.heap.size + 1 := by simp
  obtain ⟨w1, hw1⟩ : ∃ w1, w1 = w.alloc (.cells #[.int .i64 0, .int .i64 0, .slice none 0 0, .int .u32 0, .int .u32 0, .int .u32 0, .int .u32 0, .int .u32 0, .slice none 0 0] 27) := ⟨_, rfl⟩
  rw [← hw1] at h1 b1 e1 ⊢
  have h2 := Box3.new w1 41 (.int .i64 0) (.int .i64 0) (.slice none 0 0)
  have b2 : Below w1.heap.size w1 (w1.alloc (.cells #[.int .i64 0, .int .i64 0, .slice none 0 0] 41)) := (Below.refl _ _).alloc (Nat.le_refl _) _
  have e2 : (w1.alloc (.cells #[.int .i64 0, .int .i64 0, .slice none 0 0] 41)).heap.size = w.heap.size + 2 := by simp [e1]
  rw [e1] at h2
  obtain ⟨w2, hw2⟩ : ∃ w2, w2 = w1.alloc (.cells #[.int .i64 0, .int .i64 0, .slice none 0 0] 41) := ⟨_, rfl⟩
  rw [← hw2] at h2 b2 e2 ⊢
  have h3 := Box9.new w2 27 (.int .i64 0) (.int .i64 0) (.slice none 0 0) (.int .u32 0) (.int .u32 0) (.int .u32 0) (.int .u32 0) (.int .u32 0) (.slice none 0 0)
  have b3 : Below w2.heap.size w2 (w2.alloc (.cells #[.int .i64 0, .int .i64 0, .slice none 0 0, .int .u32 0, .int .u32 0, .int .u32 0, .int .u32 0, .int .u32 0, .slice none 0 0] 27)) := (Below.refl _ _).alloc (Nat.le_refl _) _
  have e3 : (w2.alloc (.cells #[.int .i64 0, .int .i64 0, .slice none 0 0, .int .u32 0, .int .u32 0, .int .u32 0, .int .u32 0, .int .u32 0, .slice none 0 0] 27)).heap.size = w.heap.size + 3 := by simp [e2]
  rw [e2] at h3
  obtain ⟨w3, hw3⟩ : ∃ w3, w3 = w2.alloc (.cells #[.int .i64 0, .int .i64 0, .slice none 0 0, .int .u32 0, .int .u32 0, .int .u32 0, .int .u32 0, .int .u32 0, .slice none 0 0] 27) := ⟨_, rfl⟩
  rw [← hw3] at h3 b3 e3 ⊢
  have h4 := Box9.new w3 27 (.int .i64 0) (.int .i64 0) (.slice none 0 0) (.int .u32 0) (.int .u32 0) (.int .u32 0) (.int .u32 0) (.int .u32 0) (.slice none 0 0)
  have b4 : Below w3.heap.size w3 (w3.alloc (.cells #[.int .i64 0, .int .i64 0, .slice none 0 0, .int .u32 0, .int .u32 0, .int .u32 0, .int .u32 0, .int .u32 0, .slice none 0 0] 27)) := (Below.refl _ _).alloc (Nat.le_refl _) _
  have e4 : (w3.alloc (.cells #[.int .i64 0, .int .i64 0, .slice none 0 0, .int .u32 0, .int .u32 0, .int .u32 0, .int .u32 0, .int .u32 0, .slice none 0 0] 27)).heap.size = w.heap.size + 4 := by simp [e3]
  rw [e3] at h4
  obtain ⟨w4, hw4⟩ : ∃ w4, w4 = w3.alloc (.cells #[.int .i64 0, .int .i64 0, .slice none 0 0, .int .u32 0, .int .u32 0, .int .u32 0, .int .u32 0, .int .u32 0, .slice none 0 0] 27) := ⟨_, rfl⟩
  rw [← hw4] at h4 b4 e4 ⊢
  have h5 := Box3.new w4 41 (.int .i64 3) (.int .i64 1) (.slice none 0 0)
  have b5 : Below w4.heap.size w4 (w4.alloc (.cells #[.int .i64 3, .int .i64 1, .slice none 0 0] 41)) := (Below.refl _ _).alloc (Nat.le_refl _) _
  have e5 : (w4.alloc (.cells #[.int .i64 3, .int .i64 1, .slice none 0 0] 41)).heap.size = w.heap.size + 5 := by simp [e4]
  rw [e4] at h5
  obtain ⟨w5, hw5⟩ : ∃ w5, w5 = w4.alloc (.cells #[.int .i64 3, .int .i64 1, .slice none 0 0] 41) := ⟨_, rfl⟩
  rw [← hw5] at h5 b5 e5 ⊢
  have h6 := heap_alloc_new w5 (.cells Tryz.zeroCells109 109)
  have b6 : Below w5.heap.size w5 (w5.alloc (.cells Tryz.zeroCells109 109)) := (Below.refl _ _).alloc (Nat.le_refl _) _
  have e6 : (w5.alloc (.cells Tryz.zeroCells109 109)).heap.size = w.heap.size + 6 := by simp [e5]
  rw [e5] at h6
  obtain ⟨w6, hw6⟩ : ∃ w6, w6 = w5.alloc (.cells Tryz.zeroCells109 109) := ⟨_, rfl⟩
  rw [← hw6] at h6 b6 e6 ⊢
  have hlow : Below w.heap.size w w6 := ((((b1.trans (b2.mono (by omega))).trans (b3.mono (by omega))).trans (b4.mono (by omega))).trans (b5.mono (by omega))).trans (b6.mono (by omega))
  refine ⟨((((h1.keep b2).keep b3).keep b4).keep b5).keep b6, (((h2.keep b3).keep b4).keep b5).keep b6, ⟨zeroA_ok, ⟨by omega, by omega⟩, none, 0, 0, none, 0, 0, ((h3.keep b4).keep b5).keep b6, nil_segsF _ _ _, U32s.nil _, NewAt.nil _⟩, (h4.keep b5).keep b6, h5.keep b6, ?_, hlow⟩
  rw [h6, seen_zero]
theorem has_sum {h : Int} {k : Nat} (h0 : 0 ≤ h) (h5 : h < 512) (hk : k ≤ 8) : wrap64 (h + wrap64 (2 ^ min k 64)) = h + 2 ^ k ∧ (Lit.int .i64 (h + 2 ^ k)).wf = true := by
  rw [Nat.min_eq_left (show k ≤ 64 by omega)]
  have h2 : 2 ^ k ≤ 256 := Nat.le_trans (Nat.pow_le_pow_right (by omega) hk) (by decide)
  have h1 : (2 : Int) ^ k = ((2 ^ k : Nat) : Int) := by simp
  rw [h1]
  generalize 2 ^ k = y at h2
  constructor
  · rw [wrap64_small (n := (y : Int)) (by omega) (by omega), wrap64_small (by omega) (by omega)]
  · simp [Lit.wf, IntKind.min, IntKind.max, IntKind.signed, IntKind.bits]; omega
theorem byte16u : ∀ f : Nat, f < 256 → (bits .and .u8 (f : Int) 16 != 0) = decide (f / 16 % 2 = 1) := by decide +kernel
theorem newAt_own {W : World} {n m base : Nat} {t : TypeId} {v : Value} {xs : List Value} (h : W.ownsRow base t 1 v m xs) (hn : n ≤ base) : NewAt n v := fun b off k c e h0 => by
  have := (h.lt b (by rw [e]; rfl)).1
  omega
theorem DecG.drew {b : List Nat} {w W : World} {e : Ending} (h : DecG b w e W) : DecG b w e W.drew := by
  obtain ⟨va, vn, h1, ⟨a1, vp, vc, a2, a3, a4, a5⟩, h3, h4⟩ := h
  have k := (Below.refl W.heap.size W).drew
  exact ⟨va, vn, h1, ⟨a1, vp, vc, a2, segs_drew a3, a4.keep k, a5⟩, h3.keep k, h4.trans (k.mono h4.size)⟩
set_option maxRecDepth 100000 in
set_option maxHeartbeats 8000000 in
theorem decode_rg (v : Value) (b : List Nat) (w : World) (hv : U8s w v b) (hl : b.length ≤ 1600) :
    Calls Tryz.prog 52 #[v] w (DecG b w) := by
  have D0 := Go.Lib.hid (rd_boxes w)
  have HU := Go.Lib.hid hv
  obtain ⟨Ab, cb, rfl, hlc, hcc⟩ := hv.form
  clear hv
  go_enter Tryz.func52, Tryz.ntmps52
  go_wp2
  go_loopw [8] (fun v8 wx => ∃ (j : Nat) (seen : List Nat) (a : At), v8 = .int .i64 j ∧ Hid (j ≤ b.length ∧ decodeA b = decF seen a (b.drop j) ∧ FineR seen a) ∧ Hid (RdSt w seen (nrm a) wx)) (fun v8 _ => b.length - (intOf v8).toNat)
  case atStart => exact ⟨0, [], zeroA, rfl, Go.Lib.hid ⟨Nat.zero_le _, rfl, fineR_zero⟩, Go.Lib.hid (by rw [nrm_zero]; exact D0.out)⟩
  case round =>
    obtain ⟨j, seen, a, rfl, HI, ST⟩ := hrel
    have hj := HI.out.1
    by_cases hlt : j < b.length
    · have z1 : (j : Int) < (b.length : Int) := by omega
      by_cases h2 : j + 2 ≤ b.length
      · have z2 : (j : Int) + 1 < (b.length : Int) := by omega
        have z5 : (0 : Int) ≤ (j : Int) := by omega
        obtain ⟨blk, off, f, k, rfl, hbl, hf, hf8, ca0, hk, hk8, ck0⟩ := two_at HU.out (k := j) (by omega)
        have HKB := Go.Lib.hid (fun (W : World) (h : Below w.heap.size w W) => And.intro (keeps h ca0) (keeps h ck0))
        have HIT := Go.Lib.hid (item_at HU.out.2 hf hk)
        clear ca0 ck0 hf hk
        obtain ⟨ca, ck⟩ := HKB.out _ ST.out.low
        have HF8 := Go.Lib.hid (And.intro hf8 hk8)
        obtain ⟨lng, hlng⟩ : ∃ lng, lng = decide (f / 16 % 2 = 1) := ⟨_, rfl⟩
        have y16 : (bits .and .u8 (f : Int) 16 != 0) = lng := by rw [hlng]; exact byte16u f hf8
        have HLNG := Go.Lib.hid hlng
        clear hlng
        go_upto_if 36 with fail
        go_cut [9] (fun s9 wx => s9 = .int .i64 (hdN f : Nat) ∧ wx = wr)
        case first =>
          cases lng with
          | true =>
            have HE := Go.Lib.hid (show hdN f = 4 by unfold hdN; rw [if_pos (of_decide_eq_true HLNG.out.symm)])
            go_wp2
            go_meet
            exact ⟨by rw [HE.out]; rfl, rfl⟩
          | false =>
            have HE := Go.Lib.hid (show hdN f = 3 by unfold hdN; rw [if_neg (of_decide_eq_false HLNG.out.symm)])
            go_wp2
            go_meet
            exact ⟨by rw [HE.out]; rfl, rfl⟩
        case rest =>
        obtain ⟨rfl, rfl⟩ := hcut
        obtain ⟨hd, hhd⟩ : ∃ hd, hd = hdN f := ⟨_, rfl⟩
        obtain ⟨n, hn⟩ : ∃ n, n = lenN b j (hdN f) := ⟨_, rfl⟩
        have hd34 : 3 ≤ hd ∧ hd ≤ 4 := by rw [hhd]; unfold hdN; split <;> omega
        rw [← hn] at HIT
        rw [← hhd] at HIT ⊢
        have HHD := Go.Lib.hid (And.intro hhd (show n = val ((b.drop (j + 2)).take (hd - 2)) by rw [hn, hhd]; rfl))
        clear hhd hn y16 HLNG lng
        by_cases g1 : j + hd ≤ b.length
        · have z6 : decide ((b.length : Int) < (j : Int) + (hd : Int)) = false := decide_eq_false (by omega)
          obtain ⟨hn6, hI1, hI2⟩ := HIT.out.2 g1
          have HI1 := Go.Lib.hid hI1
          have HI2 := Go.Lib.hid hI2
          obtain ⟨t, ht⟩ : ∃ t, t = j + hd := ⟨_, rfl⟩
          obtain ⟨j2, hj2⟩ : ∃ j2, j2 = j + 2 := ⟨_, rfl⟩
          obtain ⟨u, hu⟩ : ∃ u, u = t + n := ⟨_, rfl⟩
          have e1 : (j : Int) + (hd : Int) = (t : Int) := by omega
          have e2 : (j : Int) + 2 = (j2 : Int) := by omega
          have e3 : (t : Int) + (n : Int) = (u : Int) := by omega
          have e4 : j2 + (hd - 2) = t := by omega
          have z6 : decide ((b.length : Int) < (t : Int)) = false := decide_eq_false (by omega)
          have z7 : (0 : Int) ≤ (j2 : Int) := by omega
          have z8 : (j2 : Int) ≤ (t : Int) := by omega
          have z9 : (t : Int) ≤ (cb : Int) := by omega
          have z10 : ¬ cb = j2 := by omega
          have z11 : (0 : Int) ≤ (j : Int) + 1 := by omega
          have z12 : (0 : Int) ≤ (k : Int) := by omega
          have z13 : (k : Int) < 256 := by omega
          have HUJ := Go.Lib.hid (show U8s w (.slice (some ⟨blk, off + j2, none⟩) (t - j2) (cb - j2)) ((b.drop j2).take (hd - 2)) from by
            have h := mid_any HU.out (i := j2) (m := hd - 2) (by omega)
            rw [show t - j2 = hd - 2 by omega]
            exact h)
          have CNM := Go.Lib.hid (fun (W : World) (h : Below w.heap.size w W) => show Calls Tryz.prog 50 #[.slice (some ⟨blk, off + j2, none⟩) (t - j2) (cb - j2)] W (Tells (.int .u32 n) W) from by
            have h := num_any _ _ W (HUJ.out.keep h) (Nat.le_trans (List.length_take_le _ _) (by omega))
            rw [HHD.out.2, ← hj2]
            exact h)
          have HT := Go.Lib.hid (And.intro ht (And.intro hj2 (And.intro hu e4)))
          have n63 : IntKind.i64.wrap (n : Int) = (n : Int) := by rw [IntKind.wrap_i64]; omega
          clear ht hj2 hu e4 hI1 hI2
          have CE := Go.Lib.hid (fun (W : World) (a : At) (seen : List Nat) (h : RdSt w seen a W) => show W.cell? ⟨w.heap.size + 1 + 1 + 1 + 1 + 1, k, none⟩ = some (.bool (decide (k ∈ seen))) ∧ W.frozen? ⟨w.heap.size + 1 + 1 + 1 + 1 + 1, k, none⟩ = false from h.seen_cell HF8.out.2)
          by_cases g2 : u ≤ b.length
          · have z14 : decide ((b.length : Int) < (u : Int)) = false := decide_eq_false (by omega)
            have HIS := Go.Lib.hid (HI2.out (by have := HT.out; omega))
            by_cases hse : k ∈ seen
            · have HDC := Go.Lib.hid (show decodeA b = .inl ⟨3, (1 : Nat), []⟩ from (HI.out.2.1.trans (decF_some (HU.out.2.drop _) HIS.out.1)).trans (if_pos hse))
              have hd : decide (k ∈ seen) = true := decide_eq_true hse
              clear hse
              go_wp2
              go_quiet (fail)
              go_wp2_with (go_at_call 50; first | (refine (CNM.out _ (ST.out.low.trans ((Mem.below_drewN _ _).mono ST.out.low.size))).mono ?_; rintro e x ⟨rfl, hx⟩; have S2 := Go.Lib.hid ((ST.out.below (Mem.below_drewN _ _)).below hx); clear hx; obtain ⟨s0, s1⟩ := CE.out _ _ _ S2.out) | (trace "FELL N"; trace_state; fail_if_success skip))
              clear CE HUJ CNM HT HHD HIT HKB HI1 HI2 e1 e2 e3 n63 z1 z2 z5 z6 z7 z8 z9 z10 z11 z12 z13 z14 s0 s1 ca ck ST
              have LD := Go.Lib.hid (S2.out.below (Below.refl x.heap.size x).drew)
              obtain ⟨c0, c1, c2, c3, c4, c5, c6, c7, c8⟩ := S2.out.r9.cells
              have f9 := S2.out.r9.free
              obtain ⟨p0, p1, p2, p3, p4, p5, p6, p7, p8⟩ := S2.out.no9.cells
              obtain ⟨m0, m1, m2⟩ := (dec_mid S2.out.n3 (.int .i64 0) (.int .i64 0) (.slice none 0 0) (.int .u32 0) (.int .u32 0) (.int .u32 0) (.int .u32 0) (.int .u32 0) (.slice none 0 0)).cells
              have f3 := (dec_mid S2.out.n3 (.int .i64 0) (.int .i64 0) (.slice none 0 0) (.int .u32 0) (.int .u32 0) (.int .u32 0) (.int .u32 0) (.int .u32 0) (.slice none 0 0)).free
              unfold nine at m0 m1 m2 f3
              obtain ⟨c0', c1', c2', c3', c4', c5', c6', c7', c8'⟩ := LD.out.r9.cells
              have f9' := LD.out.r9.free
              obtain ⟨p0', p1', p2', p3', p4', p5', p6', p7', p8'⟩ := LD.out.no9.cells
              obtain ⟨m0', m1', m2'⟩ := (dec_mid LD.out.n3 (.int .i64 0) (.int .i64 0) (.slice none 0 0) (.int .u32 0) (.int .u32 0) (.int .u32 0) (.int .u32 0) (.int .u32 0) (.slice none 0 0)).cells
              have f3' := (dec_mid LD.out.n3 (.int .i64 0) (.int .i64 0) (.slice none 0 0) (.int .u32 0) (.int .u32 0) (.int .u32 0) (.int .u32 0) (.int .u32 0) (.slice none 0 0)).free
              unfold nine at m0' m1' m2' f3'
              obtain ⟨l0, l1, l2⟩ := S2.out.ls.cells
              obtain ⟨l0', l1', l2'⟩ := LD.out.ls.cells
              (try go_wp2)
              go_region
              clear c0 c1 c2 c3 c4 c5 c6 c7 c8 f9 p0 p1 p2 p3 p4 p5 p6 p7 p8 m0 m1 m2 f3 c0' c1' c2' c3' c4' c5' c6' c7' c8' f9' p0' p1' p2' p3' p4' p5' p6' p7' p8' m0' m1' m2' f3' l0 l1 l2 l0' l1' l2'
              go_wp2
              obtain ⟨k1, k2, -⟩ := dec_end S2.out.r9 S2.out.n3 S2.out.low (.int .i64 0) (.int .i64 0) (.slice none 0 0) (.int .u32 0) (.int .u32 0) (.int .u32 0) (.int .u32 0) (.int .u32 0) (.slice none 0 0) (.int .i64 3) (.int .i64 1) (.slice none 0 0)
              obtain ⟨r0, r1, r2, r3, r4, r5, r6, r7, r8⟩ := k1.cells
              obtain ⟨t0, t1, t2⟩ := k2.cells
              clear k1 k2
              unfold three nine at r0 r1 r2 r3 r4 r5 r6 r7 r8 t0 t1 t2
              refine bodyPost_ret (v := .tuple #[.agg #[.int .i64 0, .int .i64 0, .slice none 0 0, .int .u32 0, .int .u32 0, .int .u32 0, .int .u32 0, .int .u32 0, .slice none 0 0], .agg #[.int .i64 3, .int .i64 1, .slice none 0 0]]) (by simp [results, Tryz.results52, go_sem, r0, r1, r2, r3, r4, r5, r6, r7, r8, t0, t1, t2]) rfl ?_
              exact (dec_bad S2.out.r9 S2.out.n3 S2.out.low HDC.out (note_three _ 1 (by decide))).drew
            · have hdec : decide (k ∈ seen) = false := decide_eq_false hse
              have HD2 := Go.Lib.hid ((HI.out.2.1.trans (decF_some (HU.out.2.drop _) HIS.out.1)).trans (if_neg hse))
              have z15 : (0 : Int) ≤ (t : Int) := by omega
              have z16 : (t : Int) ≤ (u : Int) := by omega
              have z17 : (u : Int) ≤ (cb : Int) := by omega
              have z18 : ¬ cb = j := by omega
              have z19 : (j : Int) ≤ (u : Int) := by omega
              obtain ⟨lg, hlg⟩ : ∃ lg, lg = decide (f / 16 % 2 = 1) := ⟨_, rfl⟩
              have y17 : (bits .and .i64 (f : Int) 16 != 0) = lg := by
                rw [byte16 f HF8.out.1, hlg]
                by_cases h : f / 16 % 2 = 1
                · rw [if_pos h, decide_eq_true h]; rfl
                · rw [if_neg h, decide_eq_false h]; rfl
              have HLG := Go.Lib.hid hlg
              clear hlg
              obtain ⟨Av, hAv⟩ : ∃ Av, Av = (if cb = t then some (⟨blk, off, none⟩ : Addr) else some ⟨blk, off + t, none⟩) := ⟨_, rfl⟩
              go_wp2
              go_quiet (fail)
              go_wp2_with (go_at_call 50; first | (refine (CNM.out _ (ST.out.low.trans ((Mem.below_drewN _ _).mono ST.out.low.size))).mono ?_; rintro e x ⟨rfl, hx⟩; have S2 := Go.Lib.hid ((ST.out.below (Mem.below_drewN _ _)).below hx); clear hx; obtain ⟨s0, s1⟩ := CE.out _ _ _ S2.out; rw [hdec] at s0; have S3 := Go.Lib.hid (show RdSt w (k :: seen) (nrm a) (x.setCell ⟨w.heap.size + 1 + 1 + 1 + 1 + 1, k, none⟩ (.bool true)) from S2.out.mark HF8.out.2)) | (trace "FELL N"; trace_state; fail_if_success skip))
              go_quiet (fail)
              go_upto_if 108 with fail
              have S4 := Go.Lib.hid (show RdSt w (k :: seen) (nrm a) ((x.setCell ⟨w.heap.size + 1 + 1 + 1 + 1 + 1, k, none⟩ (.bool true)).drewN nq) from S3.out.below (Mem.below_drewN _ _))
              generalize (x.setCell ⟨w.heap.size + 1 + 1 + 1 + 1 + 1, k, none⟩ (.bool true)).drewN nq = W4 at S4 ⊢
              rw [← hAv]
              have HAV := Go.Lib.hid hAv
              clear s0 s1 S3 S2 ca ck hAv y17 CE HUJ CNM
              go_cut [15] (fun s15 wx => s15 = .int .i64 (o1N f : Nat) ∧ W4 = wx)
              case first =>
                cases lg with
                | true =>
                  have HE := Go.Lib.hid (show o1N f = f - 16 ∧ 16 ≤ f by
                    have h := of_decide_eq_true HLG.out.symm
                    unfold o1N
                    rw [if_pos h]
                    exact ⟨rfl, by omega⟩)
                  go_wp2
                  go_meet
                  exact ⟨by (rw [HE.out.1]; congr 1; have := HE.out.2; omega), rfl⟩
                | false =>
                  have HE := Go.Lib.hid (show o1N f = f by unfold o1N; rw [if_neg (of_decide_eq_false HLG.out.symm)])
                  go_wp2
                  go_meet
                  exact ⟨by rw [HE.out], rfl⟩
              case rest =>
              obtain ⟨rfl, rfl⟩ := hcut
              obtain ⟨o, ho⟩ : ∃ o, o = o1N f := ⟨_, rfl⟩
              have ho8 : o < 256 := by rw [ho]; exact o1N_lt HF8.out.1
              rw [← ho]
              obtain ⟨l2, hl2⟩ : ∃ l2, l2 = decide (o / 32 % 2 = 1) := ⟨_, rfl⟩
              have y32 : (bits .and .i64 (o : Int) 32 != 0) = l2 := by
                rw [byte32 o ho8, hl2]
                by_cases h : o / 32 % 2 = 1
                · rw [if_pos h, decide_eq_true h]; rfl
                · rw [if_neg h, decide_eq_false h]; rfl
              have HL2 := Go.Lib.hid (And.intro ho hl2)
              clear ho hl2 HLG lg
              go_upto_region 21 with fail
              go_cut [117] (fun s117 wx => s117 = .bool (decide (7 ≤ k) && l2) ∧ W4 = wx)
              case first =>
                by_cases h7 : 7 ≤ k
                · have y7 : (k : Int) ≥ 7 := by omega
                  have H7 := Go.Lib.hid h7
                  clear h7
                  go_wp2
                  go_meet
                  exact ⟨by rw [decide_eq_true H7.out]; rfl, rfl⟩
                · have y7 : decide ((7 : Int) ≤ (k : Int)) = false := decide_eq_false (by omega)
                  have H7 := Go.Lib.hid h7
                  clear h7
                  go_wp2
                  go_meet
                  exact ⟨by rw [decide_eq_false H7.out]; rfl, rfl⟩
              case rest =>
              obtain ⟨rfl, rfl⟩ := hcut
              obtain ⟨c2, hc2⟩ : ∃ c2, c2 = (decide (7 ≤ k) && l2) := ⟨_, rfl⟩
              rw [← hc2]
              have HC2 := Go.Lib.hid (show c2 = decide (7 ≤ k ∧ o1N f / 32 % 2 = 1) by
                rw [hc2, HL2.out.2, HL2.out.1, Bool.decide_and])
              clear hc2 y32
              go_upto_if 117 with fail
              go_cut [15] (fun s15 wx => s15 = .int .i64 (ownF f k : Nat) ∧ W4 = wx)
              case first =>
                cases c2 with
                | true =>
                  have HE := Go.Lib.hid (show ownF f k = o - 32 ∧ 32 ≤ o by
                    have h := of_decide_eq_true HC2.out.symm
                    rw [ownF_is HF8.out.1, if_pos h, HL2.out.1]
                    exact ⟨rfl, by have := h.2; omega⟩)
                  go_wp2
                  go_meet
                  exact ⟨by (rw [HE.out.1]; congr 1; have := HE.out.2; omega), rfl⟩
                | false =>
                  have HE := Go.Lib.hid (show ownF f k = o by rw [ownF_is HF8.out.1, if_neg (of_decide_eq_false HC2.out.symm), HL2.out.1])
                  go_wp2
                  go_meet
                  exact ⟨by rw [HE.out], rfl⟩
              case rest =>
              obtain ⟨rfl, rfl⟩ := hcut
              clear HC2 HL2 ho8 c2 l2
              generalize ho : ownF f k = ow
              go_upto_region 24 with fail
              go_cut [125] (fun s125 wx => s125 = .bool (decide (k < 1) || decide (8 < k)) ∧ W4 = wx)
              case first =>
                by_cases k1 : k < 1
                · have y8 : (k : Int) < 1 := by omega
                  have K1 := Go.Lib.hid k1
                  clear k1
                  go_wp2
                  go_meet
                  exact ⟨by rw [decide_eq_true K1.out]; rfl, rfl⟩
                · have y8 : decide ((k : Int) < 1) = false := decide_eq_false (by omega)
                  have K1 := Go.Lib.hid k1
                  by_cases k8 : 8 < k
                  · have y9 : (k : Int) > 8 := by omega
                    have K8 := Go.Lib.hid k8
                    clear k1 k8
                    go_wp2
                    go_meet
                    exact ⟨by rw [decide_eq_false K1.out, decide_eq_true K8.out]; rfl, rfl⟩
                  · have y9 : decide ((8 : Int) < (k : Int)) = false := decide_eq_false (by omega)
                    have K8 := Go.Lib.hid k8
                    clear k1 k8
                    go_wp2
                    go_meet
                    exact ⟨by rw [decide_eq_false K1.out, decide_eq_false K8.out]; rfl, rfl⟩
              case rest =>
              obtain ⟨rfl, rfl⟩ := hcut
              obtain ⟨unk, hunk⟩ : ∃ unk, unk = (decide (k < 1) || decide (8 < k)) := ⟨_, rfl⟩
              rw [← hunk]
              have HUNK := Go.Lib.hid (show unk = decide (k < 1 ∨ 8 < k) by rw [hunk, Bool.decide_or])
              have HOW := Go.Lib.hid ho
              clear hunk ho
              obtain ⟨xv, hxv⟩ : ∃ xv, xv = (b.drop (j + hd)).take n := ⟨_, rfl⟩
              have hxl : xv.length = u - t := by rw [hxv, List.length_take, List.length_drop]; have := HT.out; omega
              have hxs : Small xv := by rw [hxv]; exact (HU.out.2.drop _).take _
              have HXU := Go.Lib.hid (show U8s w (.slice Av (u - t) (cb - t)) xv from by
                have h := HU.out.cut (k := t) (by omega)
                have h2 : U8s w (.slice Av (b.length - t) (cb - t)) (b.drop t) := by
                  rw [HAV.out]
                  by_cases hct : cb = t
                  · rw [if_pos hct] at h ⊢; exact h
                  · rw [if_neg hct] at h ⊢
                    simpa [Addr.add, show t ≠ 0 by omega] using h
                have h3 := h2.prefix_ (k := n) (d := cb - t) (by rw [List.length_drop]; have := HT.out; omega) (by have := HT.out; omega) (by unfold maxLen; omega)
                rw [show u - t = n by have := HT.out; omega, hxv, show j + hd = t by have := HT.out; omega]
                exact h3)
              have hll := Nat.le_trans (Nat.le_of_eq hxl) (show u - t ≤ 1600 by omega)
              have HIS2 := Go.Lib.hid (show decodeA b = if subOf f k xv = 0 then decF (k :: seen) (layA a k xv) (b.drop u) else .inl (badN (subOf f k xv) ⟨f, k, xv, b.drop u⟩) by
                have h := HD2.out
                rw [← hxv, show j + hd + n = u by have := HT.out; omega] at h
                exact h)
              have HALL := Go.Lib.hid (show U8s w (.slice (some ⟨blk, off + j, none⟩) (u - j) (cb - j)) (itemB f k xv) from by
                have h := mid_any HU.out (i := j) (m := hd + n) (by have := HT.out; omega)
                rw [HIS.out.2, ← hxv, show hd + n = u - j by have := HT.out; omega] at h
                exact h)
              have HFS := Go.Lib.hid (And.intro hxs (And.intro hll (And.intro hxl hse)))
              have CLY := Go.Lib.hid (fun (W : World) (hA : BoxA W (w.heap.size + 2) (w.heap.size + 6) (nrm a)) (hlow : Below w.heap.size w W) (h1 : 1 ≤ k) (h8 : k ≤ 8) (hlg : longB k xv.length = true) => show Calls Tryz.prog 92 #[.pointer (some ⟨w.heap.size + 1 + 1, 0, none⟩), .int .i64 k, .slice Av (u - t) (cb - t)] W (LayF (w.heap.size + 2) (w.heap.size + 6) (nrm a) k xv W) from by
                have h := lay_any k Av (cb - t) xv W (w.heap.size + 2) (w.heap.size + 6) (nrm a) hA (by rw [hxl]; exact HXU.out.keep hlow) h1 h8 hlg hll
                rw [hxl] at h
                exact h)
              have HNX := Go.Lib.hid (show n = xv.length by rw [hxl]; have := HT.out; omega)
              clear hxv hxl hxs hll HIS HD2 HAV hse
              go_upto_if 125 with fail
              go_cut [16] (fun s16 wx => ∃ s : Nat, s16 = .int .i64 s ∧ Hid (s = subOf f k xv) ∧ Hid ((s = 0 → RdSt w (k :: seen) (nrm (layA a k xv)) wx) ∧ Lost w wx))
              case first =>
                cases unk with
                | true =>
                  have hu8 := of_decide_eq_true HUNK.out.symm
                  have HE := Go.Lib.hid (show layA a k xv = a by unfold layA; rw [if_pos hu8])
                  by_cases hf2 : f < 128
                  · have y9 : (f : Int) < 128 := by omega
                    have HS := Go.Lib.hid (show subOf f k xv = 2 by unfold subOf; rw [if_pos hu8, if_pos hf2])
                    clear hf2 hu8
                    go_wp2
                    go_meet
                    exact ⟨2, rfl, Go.Lib.hid HS.out.symm, Go.Lib.hid ⟨fun h => absurd h (by decide), S4.out.lost (Only.refl _ _)⟩⟩
                  · have y9 : decide ((f : Int) < 128) = false := decide_eq_false (by omega)
                    have HS := Go.Lib.hid (show subOf f k xv = 0 by unfold subOf; rw [if_pos hu8, if_neg hf2])
                    clear hf2 hu8
                    go_wp2
                    go_meet
                    exact ⟨0, rfl, Go.Lib.hid HS.out.symm, Go.Lib.hid ⟨fun _ => by rw [HE.out]; exact S4.out, S4.out.lost (Only.refl _ _)⟩⟩
                | false =>
                  have hu8 := of_decide_eq_false HUNK.out.symm
                  have HSK := Go.Lib.hid (show subOf f k xv = if ow ≠ flagN k then 4 else if longB k xv.length = false then 5 else fillR k xv by rw [sub_known hu8, HOW.out, fillR_is HFS.out.1 HFS.out.2.1])
                  have CF := Go.Lib.hid (fun W => show Calls Tryz.prog 81 #[.int .i64 k] W (Tells (.int .i64 (flagN k : Nat)) W) from by
                    have h := refFlags8 (k : Int) W
                    rw [flagN_is] at h
                    exact h)
                  have CG := Go.Lib.hid (fun W => show Calls Tryz.prog 91 #[.int .i64 k, .int .i64 n] W (Tells (.bool (longB k xv.length)) W) from by
                    have h := long8_any k n W (by omega) (by omega) (by omega)
                    rw [show longB k n = longB k xv.length by rw [← HNX.out]] at h
                    exact h)
                  generalize flagN k = fl at HSK CF
                  by_cases hfl : ow = fl
                  · have y10 : ((ow : Int) != (fl : Int)) = false := by simp [hfl]
                    rw [if_neg (fun h => h hfl)] at HSK
                    cases hlg : longB k xv.length with
                    | false =>
                      rw [hlg] at CG HSK
                      rw [if_pos rfl] at HSK
                      clear hlg hfl hu8
                      go_wp2_with (first
                        | (go_at_call 81; refine (CF.out _).mono ?_; rintro e x1 ⟨rfl, hx⟩; have S5 := Go.Lib.hid (S4.out.below hx); clear hx)
                        | (go_at_call 91; refine (CG.out _).mono ?_; rintro e x2 ⟨rfl, hx⟩; have S6 := Go.Lib.hid (S5.out.below hx); clear hx))
                      go_meet
                      exact ⟨5, rfl, Go.Lib.hid HSK.out.symm, Go.Lib.hid ⟨fun h => absurd h (by decide), S6.out.lost (Only.refl _ _)⟩⟩
                    | true =>
                      rw [hlg] at CG HSK
                      rw [if_neg (by decide)] at HSK
                      have HLG := Go.Lib.hid (And.intro hlg hu8)
                      clear hlg hfl hu8
                      have CLW := Go.Lib.hid (fun W (h : RdSt w (k :: seen) (nrm a) W) => CLY.out W h.box h.low (by have := HLG.out.2; omega) (by have := HLG.out.2; omega) HLG.out.1)
                      unfold LayF at CLW
                      go_wp2_with (first
                        | (go_at_call 81; refine (CF.out _).mono ?_; rintro e x1 ⟨rfl, hx⟩; have S5 := Go.Lib.hid (S4.out.below hx); clear hx)
                        | (go_at_call 91; refine (CG.out _).mono ?_; rintro e x2 ⟨rfl, hx⟩; have S6 := Go.Lib.hid (S5.out.below hx); clear hx)
                        | (go_at_call 92; first | (refine (CLW.out _ S6.out).mono ?_; rintro e x3 ⟨rfl, ho, ⟨q1, q2, q3, q4, q5, q6, q7, q8, hb9⟩, hg⟩; have L7 := Go.Lib.hid (And.intro ho (And.intro hb9 hg)); obtain ⟨c0, -⟩ := hb9.cells; have fB := hb9.free; clear ho hb9 hg) | (trace "FELL L"; trace_state; fail_if_success skip)))
                      have HV := Go.Lib.hid (has_sum (k := k) HI.out.2.2.fine.h0 HI.out.2.2.fine.h5 (by have := HLG.out.2; omega))
                      rw [show (nrm a).has = a.has from rfl, HV.out.1]
                      have ho := L7.out.1.set (b := w.heap.size + 2) (i := 0) rfl (.int .i64 (a.has + 2 ^ k))
                      go_meet
                      refine ⟨fillR k xv, rfl, Go.Lib.hid HSK.out.symm, Go.Lib.hid ⟨fun h => S6.out.fill ho ?_, S6.out.lost ho⟩⟩
                      rw [← nrm_lay HLG.out.2]
                      exact (L7.out.2.2 h).sethas _ HV.out.2
                  · have y10 : ((ow : Int) != (fl : Int)) = true := by simp; omega
                    rw [if_pos hfl] at HSK
                    clear hfl hu8
                    go_wp2_with (go_at_call 81; refine (CF.out _).mono ?_; rintro e x1 ⟨rfl, hx⟩; have S5 := Go.Lib.hid (S4.out.below hx); clear hx)
                    go_meet
                    exact ⟨4, rfl, Go.Lib.hid HSK.out.symm, Go.Lib.hid ⟨fun h => absurd h (by decide), S5.out.lost (Only.refl _ _)⟩⟩
              case rest =>
              obtain ⟨s, rfl, HSS, HRL⟩ := hcut
              by_cases h11 : s = 11
              · subst h11
                have HDC := Go.Lib.hid (show decodeA b = .inl ⟨3, (11 : Nat), []⟩ from HIS2.out.trans (by rw [← HSS.out, if_neg (by decide)]; rfl))
                obtain ⟨c0, c1, c2, c3, c4, c5, c6, c7, c8⟩ := HRL.out.2.r9.cells
                have f9 := HRL.out.2.r9.free
                obtain ⟨p0, p1, p2, p3, p4, p5, p6, p7, p8⟩ := HRL.out.2.no9.cells
                obtain ⟨m0, m1, m2⟩ := (dec_mid HRL.out.2.n3 (.int .i64 0) (.int .i64 0) (.slice none 0 0) (.int .u32 0) (.int .u32 0) (.int .u32 0) (.int .u32 0) (.int .u32 0) (.slice none 0 0)).cells
                have f3 := (dec_mid HRL.out.2.n3 (.int .i64 0) (.int .i64 0) (.slice none 0 0) (.int .u32 0) (.int .u32 0) (.int .u32 0) (.int .u32 0) (.int .u32 0) (.slice none 0 0)).free
                unfold nine at m0 m1 m2 f3
                go_wp2
                clear c0 c1 c2 c3 c4 c5 c6 c7 c8 f9 p0 p1 p2 p3 p4 p5 p6 p7 p8 m0 m1 m2 f3
                obtain ⟨k1, k2, -⟩ := dec_end HRL.out.2.r9 HRL.out.2.n3 HRL.out.2.low (.int .i64 0) (.int .i64 0) (.slice none 0 0) (.int .u32 0) (.int .u32 0) (.int .u32 0) (.int .u32 0) (.int .u32 0) (.slice none 0 0) (.int .i64 3) (.int .i64 11) (.slice none 0 0)
                obtain ⟨r0, r1, r2, r3, r4, r5, r6, r7, r8⟩ := k1.cells
                obtain ⟨t0, t1, t2⟩ := k2.cells
                clear k1 k2
                unfold three nine at r0 r1 r2 r3 r4 r5 r6 r7 r8 t0 t1 t2
                refine bodyPost_ret (v := .tuple #[.agg #[.int .i64 0, .int .i64 0, .slice none 0 0, .int .u32 0, .int .u32 0, .int .u32 0, .int .u32 0, .int .u32 0, .slice none 0 0], .agg #[.int .i64 3, .int .i64 11, .slice none 0 0]]) (by simp [results, Tryz.results52, go_sem, r0, r1, r2, r3, r4, r5, r6, r7, r8, t0, t1, t2]) rfl ?_
                exact (dec_bad HRL.out.2.r9 HRL.out.2.n3 HRL.out.2.low HDC.out (note_three _ 11 (by decide)))
              · have y11 : ((s : Int) == 11) = false := by simp; omega
                by_cases h0 : s = 0
                · subst h0
                  have HDC := Go.Lib.hid (show decodeA b = decF (k :: seen) (layA a k xv) (b.drop u) from HIS2.out.trans (if_pos HSS.out.symm))
                  have HFN := Go.Lib.hid (HI.out.2.2.lay HFS.out.1 HFS.out.2.1 HFS.out.2.2.2 HSS.out.symm)
                  have hju : j < u := by have := HT.out; omega
                  clear h11 y11
                  go_wp2
                  go_roundw
                  case rel => exact ⟨u, k :: seen, layA a k xv, rfl, Go.Lib.hid ⟨g2, HDC.out, HFN.out⟩, Go.Lib.hid (HRL.out.1 rfl)⟩
                  case measure => simp [intOf]; omega
                · have y12 : ((s : Int) != 0) = true := by simp; omega
                  have HDC := Go.Lib.hid (show decodeA b = .inl ⟨3, s, itemB f k xv⟩ from HIS2.out.trans (by rw [← HSS.out, if_neg h0]; unfold badN; rw [if_neg h11]))
                  have HSW := Go.Lib.hid (show (Lit.int .i64 (s : Int)).wf = true by
                    have h := (sub_bound f k xv).1
                    rw [← HSS.out] at h
                    simp [Lit.wf, IntKind.min, IntKind.max, IntKind.signed, IntKind.bits]; omega)
                  clear h0 h11
                  obtain ⟨c0, c1, c2, c3, c4, c5, c6, c7, c8⟩ := HRL.out.2.r9.cells
                  have f9 := HRL.out.2.r9.free
                  obtain ⟨p0, p1, p2, p3, p4, p5, p6, p7, p8⟩ := HRL.out.2.no9.cells
                  obtain ⟨m0, m1, m2⟩ := (dec_mid HRL.out.2.n3 (.int .i64 0) (.int .i64 0) (.slice none 0 0) (.int .u32 0) (.int .u32 0) (.int .u32 0) (.int .u32 0) (.int .u32 0) (.slice none 0 0)).cells
                  have f3 := (dec_mid HRL.out.2.n3 (.int .i64 0) (.int .i64 0) (.slice none 0 0) (.int .u32 0) (.int .u32 0) (.int .u32 0) (.int .u32 0) (.int .u32 0) (.slice none 0 0)).free
                  unfold nine at m0 m1 m2 f3
                  go_wp2
                  clear c0 c1 c2 c3 c4 c5 c6 c7 c8 f9 p0 p1 p2 p3 p4 p5 p6 p7 p8 m0 m1 m2 f3
                  obtain ⟨k1, k2, -⟩ := dec_end HRL.out.2.r9 HRL.out.2.n3 HRL.out.2.low (.int .i64 0) (.int .i64 0) (.slice none 0 0) (.int .u32 0) (.int .u32 0) (.int .u32 0) (.int .u32 0) (.int .u32 0) (.slice none 0 0) (.int .i64 3) (.int .i64 s) (.slice (some ⟨blk, off + j, none⟩) (u - j) (cb - j))
                  obtain ⟨r0, r1, r2, r3, r4, r5, r6, r7, r8⟩ := k1.cells
                  obtain ⟨t0, t1, t2⟩ := k2.cells
                  clear k1 k2
                  unfold three nine at r0 r1 r2 r3 r4 r5 r6 r7 r8 t0 t1 t2
                  refine bodyPost_ret (v := .tuple #[.agg #[.int .i64 0, .int .i64 0, .slice none 0 0, .int .u32 0, .int .u32 0, .int .u32 0, .int .u32 0, .int .u32 0, .slice none 0 0], .agg #[.int .i64 3, .int .i64 s, .slice (some ⟨blk, off + j, none⟩) (u - j) (cb - j)]]) (by simp [results, Tryz.results52, go_sem, r0, r1, r2, r3, r4, r5, r6, r7, r8, t0, t1, t2]) rfl ?_
                  exact (dec_bad HRL.out.2.r9 HRL.out.2.n3 HRL.out.2.low HDC.out (show Note _ _ _ from ⟨show (Lit.int .i64 3).wf = true by decide, HSW.out, _, rfl, HALL.out.keep HRL.out.2.low⟩))
          · have z14 : (u : Int) > (b.length : Int) := by omega
            have HDC := Go.Lib.hid (show decodeA b = .inl ⟨3, (1 : Nat), []⟩ from HI.out.2.1.trans (decF_none (fun e => by have := congrArg List.length e; simp at this; omega) (HI1.out (by have := HT.out; omega))))
            go_wp2
            go_quiet (fail)
            go_wp2_with (go_at_call 50; first | (refine (CNM.out _ (ST.out.low.trans ((Mem.below_drewN _ _).mono ST.out.low.size))).mono ?_; rintro e x ⟨rfl, hx⟩; have S2 := Go.Lib.hid ((ST.out.below (Mem.below_drewN _ _)).below hx); clear hx; obtain ⟨s0, s1⟩ := CE.out _ _ _ S2.out) | (trace "FELL N"; trace_state; fail_if_success skip))
            clear CE HUJ CNM HT HHD HIT HKB HI1 HI2 e1 e2 e3 n63 z1 z2 z5 z6 z7 z8 z9 z10 z11 z12 z13 z14 s0 s1 ca ck ST
            have LD := Go.Lib.hid (S2.out.below (Below.refl x.heap.size x).drew)
            obtain ⟨c0, c1, c2, c3, c4, c5, c6, c7, c8⟩ := S2.out.r9.cells
            have f9 := S2.out.r9.free
            obtain ⟨p0, p1, p2, p3, p4, p5, p6, p7, p8⟩ := S2.out.no9.cells
            obtain ⟨m0, m1, m2⟩ := (dec_mid S2.out.n3 (.int .i64 0) (.int .i64 0) (.slice none 0 0) (.int .u32 0) (.int .u32 0) (.int .u32 0) (.int .u32 0) (.int .u32 0) (.slice none 0 0)).cells
            have f3 := (dec_mid S2.out.n3 (.int .i64 0) (.int .i64 0) (.slice none 0 0) (.int .u32 0) (.int .u32 0) (.int .u32 0) (.int .u32 0) (.int .u32 0) (.slice none 0 0)).free
            unfold nine at m0 m1 m2 f3
            obtain ⟨c0', c1', c2', c3', c4', c5', c6', c7', c8'⟩ := LD.out.r9.cells
            have f9' := LD.out.r9.free
            obtain ⟨p0', p1', p2', p3', p4', p5', p6', p7', p8'⟩ := LD.out.no9.cells
            obtain ⟨m0', m1', m2'⟩ := (dec_mid LD.out.n3 (.int .i64 0) (.int .i64 0) (.slice none 0 0) (.int .u32 0) (.int .u32 0) (.int .u32 0) (.int .u32 0) (.int .u32 0) (.slice none 0 0)).cells
            have f3' := (dec_mid LD.out.n3 (.int .i64 0) (.int .i64 0) (.slice none 0 0) (.int .u32 0) (.int .u32 0) (.int .u32 0) (.int .u32 0) (.int .u32 0) (.slice none 0 0)).free
            unfold nine at m0' m1' m2' f3'
            obtain ⟨l0, l1, l2⟩ := S2.out.ls.cells
            obtain ⟨l0', l1', l2'⟩ := LD.out.ls.cells
            (try go_wp2)
            go_region
            clear c0 c1 c2 c3 c4 c5 c6 c7 c8 f9 p0 p1 p2 p3 p4 p5 p6 p7 p8 m0 m1 m2 f3 c0' c1' c2' c3' c4' c5' c6' c7' c8' f9' p0' p1' p2' p3' p4' p5' p6' p7' p8' m0' m1' m2' f3' l0 l1 l2 l0' l1' l2'
            go_wp2
            obtain ⟨k1, k2, -⟩ := dec_end S2.out.r9 S2.out.n3 S2.out.low (.int .i64 0) (.int .i64 0) (.slice none 0 0) (.int .u32 0) (.int .u32 0) (.int .u32 0) (.int .u32 0) (.int .u32 0) (.slice none 0 0) (.int .i64 3) (.int .i64 1) (.slice none 0 0)
            obtain ⟨r0, r1, r2, r3, r4, r5, r6, r7, r8⟩ := k1.cells
            obtain ⟨t0, t1, t2⟩ := k2.cells
            clear k1 k2
            unfold three nine at r0 r1 r2 r3 r4 r5 r6 r7 r8 t0 t1 t2
            refine bodyPost_ret (v := .tuple #[.agg #[.int .i64 0, .int .i64 0, .slice none 0 0, .int .u32 0, .int .u32 0, .int .u32 0, .int .u32 0, .int .u32 0, .slice none 0 0], .agg #[.int .i64 3, .int .i64 1, .slice none 0 0]]) (by simp [results, Tryz.results52, go_sem, r0, r1, r2, r3, r4, r5, r6, r7, r8, t0, t1, t2]) rfl ?_
            exact (dec_bad S2.out.r9 S2.out.n3 S2.out.low HDC.out (note_three _ 1 (by decide))).drew
        · have z6 : (j : Int) + (hd : Int) > (b.length : Int) := by omega
          have HDC := Go.Lib.hid (show decodeA b = .inl ⟨3, (1 : Nat), []⟩ from HI.out.2.1.trans (decF_none (fun e => by have := congrArg List.length e; simp at this; omega) (HIT.out.1 (by omega))))
          have LD := Go.Lib.hid (ST.out.below (Below.refl wc.heap.size wc).drew)
          obtain ⟨c0, c1, c2, c3, c4, c5, c6, c7, c8⟩ := ST.out.r9.cells
          have f9 := ST.out.r9.free
          obtain ⟨p0, p1, p2, p3, p4, p5, p6, p7, p8⟩ := ST.out.no9.cells
          obtain ⟨m0, m1, m2⟩ := (dec_mid ST.out.n3 (.int .i64 0) (.int .i64 0) (.slice none 0 0) (.int .u32 0) (.int .u32 0) (.int .u32 0) (.int .u32 0) (.int .u32 0) (.slice none 0 0)).cells
          have f3 := (dec_mid ST.out.n3 (.int .i64 0) (.int .i64 0) (.slice none 0 0) (.int .u32 0) (.int .u32 0) (.int .u32 0) (.int .u32 0) (.int .u32 0) (.slice none 0 0)).free
          unfold nine at m0 m1 m2 f3
          obtain ⟨c0', c1', c2', c3', c4', c5', c6', c7', c8'⟩ := LD.out.r9.cells
          have f9' := LD.out.r9.free
          obtain ⟨p0', p1', p2', p3', p4', p5', p6', p7', p8'⟩ := LD.out.no9.cells
          obtain ⟨m0', m1', m2'⟩ := (dec_mid LD.out.n3 (.int .i64 0) (.int .i64 0) (.slice none 0 0) (.int .u32 0) (.int .u32 0) (.int .u32 0) (.int .u32 0) (.int .u32 0) (.slice none 0 0)).cells
          have f3' := (dec_mid LD.out.n3 (.int .i64 0) (.int .i64 0) (.slice none 0 0) (.int .u32 0) (.int .u32 0) (.int .u32 0) (.int .u32 0) (.int .u32 0) (.slice none 0 0)).free
          unfold nine at m0' m1' m2' f3'
          obtain ⟨l0, l1, l2⟩ := ST.out.ls.cells
          obtain ⟨l0', l1', l2'⟩ := LD.out.ls.cells
          go_wp2
          go_region
          clear c0 c1 c2 c3 c4 c5 c6 c7 c8 f9 p0 p1 p2 p3 p4 p5 p6 p7 p8 m0 m1 m2 f3 c0' c1' c2' c3' c4' c5' c6' c7' c8' f9' p0' p1' p2' p3' p4' p5' p6' p7' p8' m0' m1' m2' f3' l0 l1 l2 l0' l1' l2'
          go_wp2
          obtain ⟨k1, k2, -⟩ := dec_end ST.out.r9 ST.out.n3 ST.out.low (.int .i64 0) (.int .i64 0) (.slice none 0 0) (.int .u32 0) (.int .u32 0) (.int .u32 0) (.int .u32 0) (.int .u32 0) (.slice none 0 0) (.int .i64 3) (.int .i64 1) (.slice none 0 0)
          obtain ⟨r0, r1, r2, r3, r4, r5, r6, r7, r8⟩ := k1.cells
          obtain ⟨t0, t1, t2⟩ := k2.cells
          clear k1 k2
          unfold three nine at r0 r1 r2 r3 r4 r5 r6 r7 r8 t0 t1 t2
          refine bodyPost_ret (v := .tuple #[.agg #[.int .i64 0, .int .i64 0, .slice none 0 0, .int .u32 0, .int .u32 0, .int .u32 0, .int .u32 0, .int .u32 0, .slice none 0 0], .agg #[.int .i64 3, .int .i64 1, .slice none 0 0]]) (by simp [results, Tryz.results52, go_sem, r0, r1, r2, r3, r4, r5, r6, r7, r8, t0, t1, t2]) rfl ?_
          exact (dec_bad ST.out.r9 ST.out.n3 ST.out.low HDC.out (note_three _ 1 (by decide))).drew
      · have z2 : decide ((j : Int) + 1 < (b.length : Int)) = false := decide_eq_false (by omega)
        have z3 : (j : Int) + 3 > (b.length : Int) := by omega
        obtain ⟨x, hx⟩ := drop_one (b := b) (j := j) hlt (by omega)
        have HDC := Go.Lib.hid (show decodeA b = .inl ⟨3, (1 : Nat), []⟩ from HI.out.2.1.trans (decF_none (by rw [hx]; simp) (by rw [hx]; rfl)))
        clear hx
        have LD := Go.Lib.hid (ST.out.below (Below.refl wr.heap.size wr).drew)
        obtain ⟨c0, c1, c2, c3, c4, c5, c6, c7, c8⟩ := ST.out.r9.cells
        have f9 := ST.out.r9.free
        obtain ⟨p0, p1, p2, p3, p4, p5, p6, p7, p8⟩ := ST.out.no9.cells
        obtain ⟨m0, m1, m2⟩ := (dec_mid ST.out.n3 (.int .i64 0) (.int .i64 0) (.slice none 0 0) (.int .u32 0) (.int .u32 0) (.int .u32 0) (.int .u32 0) (.int .u32 0) (.slice none 0 0)).cells
        have f3 := (dec_mid ST.out.n3 (.int .i64 0) (.int .i64 0) (.slice none 0 0) (.int .u32 0) (.int .u32 0) (.int .u32 0) (.int .u32 0) (.int .u32 0) (.slice none 0 0)).free
        unfold nine at m0 m1 m2 f3
        obtain ⟨c0', c1', c2', c3', c4', c5', c6', c7', c8'⟩ := LD.out.r9.cells
        have f9' := LD.out.r9.free
        obtain ⟨p0', p1', p2', p3', p4', p5', p6', p7', p8'⟩ := LD.out.no9.cells
        obtain ⟨m0', m1', m2'⟩ := (dec_mid LD.out.n3 (.int .i64 0) (.int .i64 0) (.slice none 0 0) (.int .u32 0) (.int .u32 0) (.int .u32 0) (.int .u32 0) (.int .u32 0) (.slice none 0 0)).cells
        have f3' := (dec_mid LD.out.n3 (.int .i64 0) (.int .i64 0) (.slice none 0 0) (.int .u32 0) (.int .u32 0) (.int .u32 0) (.int .u32 0) (.int .u32 0) (.slice none 0 0)).free
        unfold nine at m0' m1' m2' f3'
        obtain ⟨l0, l1, l2⟩ := ST.out.ls.cells
        obtain ⟨l0', l1', l2'⟩ := LD.out.ls.cells
        go_wp2
        go_region
        clear c0 c1 c2 c3 c4 c5 c6 c7 c8 f9 p0 p1 p2 p3 p4 p5 p6 p7 p8 m0 m1 m2 f3 c0' c1' c2' c3' c4' c5' c6' c7' c8' f9' p0' p1' p2' p3' p4' p5' p6' p7' p8' m0' m1' m2' f3' l0 l1 l2 l0' l1' l2'
        go_wp2
        obtain ⟨k1, k2, -⟩ := dec_end ST.out.r9 ST.out.n3 ST.out.low (.int .i64 0) (.int .i64 0) (.slice none 0 0) (.int .u32 0) (.int .u32 0) (.int .u32 0) (.int .u32 0) (.int .u32 0) (.slice none 0 0) (.int .i64 3) (.int .i64 1) (.slice none 0 0)
        obtain ⟨r0, r1, r2, r3, r4, r5, r6, r7, r8⟩ := k1.cells
        obtain ⟨t0, t1, t2⟩ := k2.cells
        clear k1 k2
        unfold three nine at r0 r1 r2 r3 r4 r5 r6 r7 r8 t0 t1 t2
        refine bodyPost_ret (v := .tuple #[.agg #[.int .i64 0, .int .i64 0, .slice none 0 0, .int .u32 0, .int .u32 0, .int .u32 0, .int .u32 0, .int .u32 0, .slice none 0 0], .agg #[.int .i64 3, .int .i64 1, .slice none 0 0]]) (by simp [results, Tryz.results52, go_sem, r0, r1, r2, r3, r4, r5, r6, r7, r8, t0, t1, t2]) rfl ?_
        exact (dec_bad ST.out.r9 ST.out.n3 ST.out.low HDC.out (note_three _ 1 (by decide))).drew
    · have hjL : j = b.length := by omega
      have HDC := Go.Lib.hid (show decodeA b = .inr (normA a) from by rw [HI.out.2.1, List.drop_of_length_le (by omega)]; rfl)
      have z1 : decide ((j : Int) < (b.length : Int)) = false := decide_eq_false (by omega)
      obtain ⟨hok, hlt9, Ap, np, cp, Ac, nc, cc, b9, hp, hc, hn⟩ := ST.out.box
      obtain ⟨k1, k2, k3⟩ := HI.out.2.2.norm
      have CM := Go.Lib.hid (show Calls Tryz.prog 76 #[.agg #[.int .i64 (nrm a).has, .int .i64 (nrm a).origin, .slice Ap np cp, .int .u32 ((nrm a).hop : Nat), .int .u32 ((nrm a).med : Nat), .int .u32 ((nrm a).pref : Nat), .int .u32 ((nrm a).aas : Nat), .int .u32 ((nrm a).aid : Nat), .slice Ac nc cc]] wr (GivesA (normA a) wr) from by
        have h := refNorm8 (.agg #[.int .i64 (nrm a).has, .int .i64 (nrm a).origin, .slice Ap np cp, .int .u32 ((nrm a).hop : Nat), .int .u32 ((nrm a).med : Nat), .int .u32 ((nrm a).pref : Nat), .int .u32 ((nrm a).aas : Nat), .int .u32 ((nrm a).aid : Nat), .slice Ac nc cc]) (nrm a) wr ⟨hok, _, _, rfl, hp.segs, hc⟩ k1 k2 k3
        rw [normA_nrm] at h
        exact h)
      obtain ⟨c0, c1, c2, c3, c4, c5, c6, c7, c8⟩ := b9.cells
      clear b9 hp hc hn hok hjL k1 k2 k3
      generalize normA a = q at CM HDC
      go_wp2_with (go_at_call 76; first | (refine (CM.out).mono ?_; rintro e y ⟨v1, vp, vc, rfl, rfl, hq, hP, hC, hC32, hb⟩; have S2 := Go.Lib.hid (ST.out.below hb); obtain ⟨ap, cp2, rfl⟩ := hP.form; obtain ⟨ac, cc2, rfl⟩ := own_form hC; have HQ := Go.Lib.hid (And.intro hq (And.intro hP (And.intro hC (And.intro hC32 ST.out.size)))); obtain ⟨q0, q1, q2, q3, q4, q5, q6, q7, q8⟩ := q; dsimp only [acells]; clear hb hq hP hC hC32 c0 c1 c2 c3 c4 c5 c6 c7 c8; obtain ⟨c0, c1, c2, c3, c4, c5, c6, c7, c8⟩ := S2.out.r9.cells; have f9 := S2.out.r9.free; obtain ⟨d0, d1, d2⟩ := (dec_mid S2.out.n3 (.int .i64 q0) (.int .i64 q1) (.slice ap q2.length cp2) (.int .u32 (q3 : Nat)) (.int .u32 (q4 : Nat)) (.int .u32 (q5 : Nat)) (.int .u32 (q6 : Nat)) (.int .u32 (q7 : Nat)) (.slice ac q8.length cc2)).cells; have f3 := (dec_mid S2.out.n3 (.int .i64 q0) (.int .i64 q1) (.slice ap q2.length cp2) (.int .u32 (q3 : Nat)) (.int .u32 (q4 : Nat)) (.int .u32 (q5 : Nat)) (.int .u32 (q6 : Nat)) (.int .u32 (q7 : Nat)) (.slice ac q8.length cc2)).free; unfold nine at d0 d1 d2 f3) | (trace "FELL M"; trace_state; fail_if_success skip))
      obtain ⟨k1, k2, k3, k4, k5⟩ := dec_end S2.out.r9 S2.out.n3 S2.out.low (.int .i64 q0) (.int .i64 q1) (.slice ap q2.length cp2) (.int .u32 (q3 : Nat)) (.int .u32 (q4 : Nat)) (.int .u32 (q5 : Nat)) (.int .u32 (q6 : Nat)) (.int .u32 (q7 : Nat)) (.slice ac q8.length cc2) (.int .i64 0) (.int .i64 0) (.slice none 0 0)
      have K := Go.Lib.hid (And.intro k3 (And.intro k4 k5))
      obtain ⟨r0, r1, r2, r3, r4, r5, r6, r7, r8⟩ := k1.cells
      obtain ⟨m0, m1, m2⟩ := k2.cells
      clear k1 k2 k3 k4 k5 c0 c1 c2 c3 c4 c5 c6 c7 c8 d0 d1 d2 f3 f9
      unfold three nine at r0 r1 r2 r3 r4 r5 r6 r7 r8 m0 m1 m2
      refine bodyPost_ret (v := .tuple #[.agg #[.int .i64 q0, .int .i64 q1, .slice ap q2.length cp2, .int .u32 (q3 : Nat), .int .u32 (q4 : Nat), .int .u32 (q5 : Nat), .int .u32 (q6 : Nat), .int .u32 (q7 : Nat), .slice ac q8.length cc2], .agg #[.int .i64 0, .int .i64 0, .slice none 0 0]]) (by simp [results, Tryz.results52, go_sem, r0, r1, r2, r3, r4, r5, r6, r7, r8, m0, m1, m2]) rfl ?_
      refine ⟨_, _, rfl, ?_, ?_, K.out.2.2⟩
      · rw [HDC.out]
        have hz := HQ.out.2.2.2.2
        exact ⟨HQ.out.1, _, _, rfl, segs_lower (segs_off HQ.out.2.1 (fun k hk => K.out.1 k (by omega)) K.out.2.1) (by omega), U32s.of_own (own_off HQ.out.2.2.1 (fun k hk => K.out.1 k (by omega))) HQ.out.2.2.2.1, newAt_own HQ.out.2.2.1 (by omega)⟩
      · rw [HDC.out]
        exact note_zero _
end Go.Proofs.YtlhdjdnflpilbaaGreatDoor.Att
