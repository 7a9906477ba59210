/- The law's does: an act done to a tree and to rows. The law's lives, out of what is asked of the tree. -/
import Derived.Test.YtpcahgnibdampaaH11
import Derived.Test.YtpcahgnibdampaaH07
import Derived.Laws.Tables
import Derived.Deep.Cut
import Derived.Deep.DrawnRows
namespace Go.Proofs.Ytpcahgnibdampaa.Tri
open Go.RowKit Mem PR Pfx Oct
theorem only_cell {F : Nat → Prop} {W W' : World} {b i : Nat} {u : Value} (h : Only F W W') (hb : b < W.heap.size) (hF : ¬ F b) (hc : W.cell? ⟨b, i, none⟩ = some u) : W'.cell? ⟨b, i, none⟩ = some u := by
  unfold World.cell? at hc ⊢
  simp only [h.block b hb hF]
  exact hc
end Go.Proofs.Ytpcahgnibdampaa.Tri
namespace Go.Proofs.Ytpcahgnibdampaa.Tri
open Go.RowKit Mem PR Pfx Oct
def pA : Pf := ⟨167772160, 8⟩
def pB : Pf := ⟨167837696, 16⟩
theorem lv1 : (if goodP pA then putE [] pA 1 else []) = [⟨pA, 1⟩] := by rfl
theorem lv2 : (if goodP pB then putE [⟨pA, 1⟩] pB 2 else [⟨pA, 1⟩]) = [⟨pA, 1⟩, ⟨pB, 2⟩] := by rfl
theorem lv3 : aboveE [⟨pA, 1⟩, ⟨pB, 2⟩] pB = [pA] := by rfl
theorem lv4 : valE [⟨pA, 1⟩, ⟨pB, 2⟩] pB = 2 := by rfl
theorem lv5 : hasE [⟨pA, 1⟩, ⟨pB, 2⟩] pB = true := by rfl
theorem okA : pA.ok := ⟨by decide, by decide⟩
theorem okB : pB.ok := ⟨by decide, by decide⟩
def TreeG (T : Tree) (base : Nat) (v : Value) (l : List Ent) (G : Nat → Prop) (w : World) : Prop := ∃ t F, T w base v t F ∧ ents t = l ∧ ∀ k, F k → G k
theorem TreeG.keep {T : Tree} (FT : FaceT T) {base : Nat} {v : Value} {l : List Ent} {G : Nat → Prop} {w w' : World} (h : TreeG T base v l G w) (hb : Below w.heap.size w w') : TreeG T base v l G w' := by
  obtain ⟨t, F, h1, h2, h3⟩ := h
  exact ⟨t, F, FT.keep h1 (fun k hk => hb.block k (FT.low h1 k hk).2) hb.size, h2, h3⟩
theorem tree_put {T : Tree} (FT : FaceT T) {w : World} {base n : Nat} {v : Value} {l : List Ent} {G : Nat → Prop} (p : Pf) (x : Int) (h : TreeG T base v l G w) (hG : ∀ k, n ≤ k → G k) (hn : n ≤ w.heap.size) (hbase : base ≤ w.heap.size) (hp : p.ok) (hx : (Lit.int .i64 x).wf = true) (hl : l.length ≤ 900) :
    Calls Try.prog 24 #[v, pV p, .int .i64 x] w fun e w' => e = .returned (.tuple #[.int .i64 (valE l p), .bool (hasE l p)]) ∧ TreeG T base v (if goodP p then putE l p x else l) G w' ∧ Only G w w' := by
  obtain ⟨t, F, h1, h2, h3⟩ := h
  refine (FT.put p x h1 hp hx hbase (by rw [h2]; omega)).mono ?_
  rintro e w' ⟨t2, F2, rfl, q1, q2, q3, q4⟩
  rw [h2] at q2 ⊢
  exact ⟨rfl, ⟨t2, F2, q1, q2, fun k hk => (q4 k hk).elim (h3 k) (fun hk => hG k (Nat.le_trans hn hk))⟩, q3.more h3⟩
set_option maxRecDepth 100000 in
set_option maxHeartbeats 16000000 in
theorem lives_of {T : Tree} (FT : FaceT T) (w : World) : Calls Try.prog 21 #[] w (Tells (.bool true) w) := by
  have CN := Go.Lib.hid (FT.new w)
  have hgen : ∀ (w1 : World) (b : Nat) (F : Nat → Prop), T w1 w.heap.size (.pointer (some ⟨b, 0, none⟩)) .nil F → Below w.heap.size w w1 → ∀ W2, W2 = (w1.alloc (.cells #[.int .u32 (167772160 : Int), .int .i64 8] 25)).alloc (.cells #[.int .u32 (167837696 : Int), .int .i64 16] 25) →
      ∃ G : Nat → Prop, TreeG T w.heap.size (.pointer (some ⟨b, 0, none⟩)) [] G W2 ∧ (∀ k, W2.heap.size ≤ k → G k) ∧ (∀ k, G k → w.heap.size ≤ k) ∧ Below w.heap.size w W2 ∧
        ∀ W, Only G W2 W → W.cell? ⟨w1.heap.size, 0, none⟩ = some (.int .u32 (167772160 : Int)) ∧ W.cell? ⟨w1.heap.size, 1, none⟩ = some (.int .i64 8) ∧ W.cell? ⟨w1.heap.size + 1, 0, none⟩ = some (.int .u32 (167837696 : Int)) ∧ W.cell? ⟨w1.heap.size + 1, 1, none⟩ = some (.int .i64 16) := by
    intro w1 b F hT hb W2 hW2
    have hb2 : Below w1.heap.size w1 W2 := by rw [hW2]; exact ((Below.refl _ w1).alloc (Nat.le_refl _) _).alloc (by simp) _
    have hsz : W2.heap.size = w1.heap.size + 2 := by rw [hW2]; simp
    have e0 : W2.cell? ⟨w1.heap.size, 0, none⟩ = some (.int .u32 (167772160 : Int)) := by rw [hW2]; simp [go_sem]
    have e1 : W2.cell? ⟨w1.heap.size, 1, none⟩ = some (.int .i64 8) := by rw [hW2]; simp [go_sem]
    have e2 : W2.cell? ⟨w1.heap.size + 1, 0, none⟩ = some (.int .u32 (167837696 : Int)) := by rw [hW2]; simp [go_sem]
    have e3 : W2.cell? ⟨w1.heap.size + 1, 1, none⟩ = some (.int .i64 16) := by rw [hW2]; simp [go_sem]
    have hlow := FT.low hT
    have hn : ∀ i, w1.heap.size ≤ i → i < w1.heap.size + 2 → ¬ (F i ∨ W2.heap.size ≤ i) := fun i h0 h1 h => h.elim (fun hf => by have := (hlow i hf).2; omega) (fun hk => by omega)
    exact ⟨fun k => F k ∨ W2.heap.size ≤ k, ⟨.nil, F, FT.keep hT (fun k hk => hb2.block k (hlow k hk).2) hb2.size, rfl, fun k hk => .inl hk⟩, fun k hk => .inr hk,
      fun k hk => hk.elim (fun hf => (hlow k hf).1) (fun h => by have := hb.size; omega), hb.trans (hb2.mono hb.size),
      fun W h => ⟨only_cell h (by omega) (hn _ (by omega) (by omega)) e0, only_cell h (by omega) (hn _ (by omega) (by omega)) e1, only_cell h (by omega) (hn _ (by omega) (by omega)) e2, only_cell h (by omega) (hn _ (by omega) (by omega)) e3⟩⟩
  have HG := Go.Lib.hid hgen
  clear hgen
  go_enter Try.func21, Try.ntmps21
  go_upto_region 3 with (go_at_call 7; refine (CN.out).mono ?_; rintro e w1 ⟨b, F, rfl, hT, hb⟩; have HT := Go.Lib.hid hT; have HB := Go.Lib.hid hb; clear hT hb)
  obtain ⟨W2, hW2⟩ : ∃ W2, W2 = (w1.alloc (.cells #[.int .u32 (167772160 : Int), .int .i64 8] 25)).alloc (.cells #[.int .u32 (167837696 : Int), .int .i64 16] 25) := ⟨_, rfl⟩
  rw [← hW2]
  obtain ⟨G, hP, hG1, hG2, hB2, hK⟩ := HG.out w1 b F HT.out HB.out W2 hW2
  have P0 := Go.Lib.hid hP
  have G1 := Go.Lib.hid hG1
  have G2 := Go.Lib.hid hG2
  have B2 := Go.Lib.hid hB2
  have HK := Go.Lib.hid hK
  obtain ⟨c0, c1, c2, c3⟩ := HK.out _ (Only.refl G W2)
  generalize Value.pointer (some ⟨b, 0, none⟩) = tv at *
  generalize w1.heap.size = q at *
  clear hW2 hP hG1 hG2 hB2 hK HG HT HB CN
  have CP1 := Go.Lib.hid (tree_put FT pA 1 P0.out G1.out (Nat.le_refl _) B2.out.size okA (by decide) (by decide))
  rw [lv1] at CP1
  unfold pV pA at CP1
  dsimp only at CP1
  go_upto_region 4 with (go_at_call 24; refine (CP1.out).mono ?_; rintro e w3 ⟨rfl, hp3, ho3⟩; have P3 := Go.Lib.hid hp3; have O3 := Go.Lib.hid ho3; obtain ⟨c0, c1, c2, c3⟩ := HK.out _ ho3; clear hp3 ho3)
  clear CP1
  have CP2 := Go.Lib.hid (tree_put FT pB 2 P3.out G1.out O3.out.size (Nat.le_trans B2.out.size O3.out.size) okB (by decide) (by decide))
  have e2 : (if goodP pB then putE [⟨⟨167772160, 8⟩, 1⟩] pB 2 else [⟨⟨167772160, 8⟩, 1⟩]) = [⟨pA, 1⟩, ⟨pB, 2⟩] := lv2
  rw [e2] at CP2
  unfold pV at CP2
  have e3 : pB.a = 167837696 := rfl
  have e4 : pB.n = 16 := rfl
  rw [e3, e4] at CP2
  clear e2 e3 e4
  go_upto_region 5 with (go_at_call 24; refine (CP2.out).mono ?_; rintro e w4 ⟨rfl, hp4, ho4⟩; have P4 := Go.Lib.hid hp4; have O4 := Go.Lib.hid (O3.out.trans ho4); obtain ⟨c0, c1, c2, c3⟩ := HK.out _ O4.out; clear hp4 ho4)
  clear CP2 P3
  obtain ⟨t, F4, hT4, hE4, -⟩ := P4.out
  have CA := Go.Lib.hid (fun (W : World) (h : Below w4.heap.size w4 W) => FT.above pB (FT.keep hT4 (fun k hk => h.block k (FT.low hT4 k hk).2) h.size) okB (by rw [hE4]; decide))
  have CG := Go.Lib.hid (fun (W : World) (h : Below w4.heap.size w4 W) => FT.get pB (FT.keep hT4 (fun k hk => h.block k (FT.low hT4 k hk).2) h.size) okB)
  have CK := Go.Lib.hid (fun (W : World) (h : Below w4.heap.size w4 W) => FT.check (FT.keep hT4 (fun k hk => h.block k (FT.low hT4 k hk).2) h.size) (by rw [hE4]; decide))
  rw [hE4, lv3] at CA
  rw [hE4, lv4, lv5] at CG
  unfold pV at CA CG
  have e3 : pB.a = 167837696 := rfl
  have e4 : pB.n = 16 := rfl
  rw [e3, e4] at CA CG
  clear e3 e4 hT4 hE4
  go_upto_region 7 with (first
    | (go_at_call 15; refine (CA.out _ (Below.refl _ _)).mono ?_; rintro e w5 ⟨Al, cl, rfl, ho5, hb5⟩; have HO5 := Go.Lib.hid (Pfxs.of_own (l := [pA]) ho5 (fun p hp => by rw [List.mem_singleton.1 hp]; exact okA)); have B5 := Go.Lib.hid hb5; obtain ⟨c0, c1, c2, c3⟩ := HK.out _ (O4.out.trans (Only.of hb5)); clear ho5 hb5)
    | (go_at_call 11; refine (CG.out _ B5.out).mono ?_; rintro e w6 ⟨rfl, hb6⟩; have HO6 := Go.Lib.hid (HO5.out.keep hb6); have B6 := Go.Lib.hid (B5.out.trans (hb6.mono B5.out.size)); obtain ⟨c0, c1, c2, c3⟩ := HK.out _ (O4.out.trans (Only.of B6.out)); clear hb6))
  obtain ⟨bl, off, rfl, hbl, k0, k1⟩ := HO6.out.at_ (i := 0) (p := pA) rfl
  simp only [Nat.zero_mul, Nat.add_zero] at k0 k1
  have e5 : (pA.a : Int) = 167772160 := rfl
  have e6 : pA.n = 8 := rfl
  rw [e5] at k0
  rw [e6] at k1
  have HS := Go.Lib.hid (fun (W : World) (h : Below w6.heap.size w6 W) => (⟨(h.cell (p := ⟨bl, off, none⟩) hbl).trans k0, (h.cell (p := ⟨bl, off + 1, none⟩) hbl).trans k1, (HK.out W (O4.out.trans (Only.of (B6.out.trans (h.mono B6.out.size))))).1, (HK.out W (O4.out.trans (Only.of (B6.out.trans (h.mono B6.out.size))))).2.1⟩ :
    W.cell? ⟨bl, off, none⟩ = some (.int .u32 (167772160 : Int)) ∧ W.cell? ⟨bl, off + 1, none⟩ = some (.int .i64 8) ∧ W.cell? ⟨q, 0, none⟩ = some (.int .u32 (167772160 : Int)) ∧ W.cell? ⟨q, 1, none⟩ = some (.int .i64 8)))
  have hS0 := HS.out _ (Below.refl w6.heap.size w6).drew
  clear c0 c1 c2 c3 k0 k1 hbl
  go_wp2
  go_region_held3 (fun w' => w'.cell? ⟨bl, off, none⟩ = some (.int .u32 (167772160 : Int)) ∧ w'.cell? ⟨bl, off + 1, none⟩ = some (.int .i64 8) ∧ w'.cell? ⟨q, 0, none⟩ = some (.int .u32 (167772160 : Int)) ∧ w'.cell? ⟨q, 1, none⟩ = some (.int .i64 8)) (assumption) (first
    | (go_at_call 22; refine (CK.out _ (B6.out.trans ((Below.refl w6.heap.size w6).drew.mono B6.out.size))).mono ?_; rintro e w7 ⟨rfl, hb7⟩; have hb8 := ((Below.refl w6.heap.size w6).drew).trans (hb7.mono ((Below.refl w6.heap.size w6).drew).size); have H8 := Go.Lib.hid hb8; have hS1 := HS.out _ hb8; clear hb7 hb8 hS0))
  all_goals go_wp2
  all_goals go_ret
  all_goals exact ⟨rfl, B2.out.trans (((O4.out.trans (Only.of (B6.out.trans (H8.out.mono B6.out.size)))).below G2.out B2.out.size))⟩
end Go.Proofs.Ytpcahgnibdampaa.Tri
