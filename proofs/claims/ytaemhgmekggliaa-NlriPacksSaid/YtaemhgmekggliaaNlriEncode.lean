/- The program's Encode. -/
import Derived.Test.YtaemhgmekggliaaNlriSize
import Derived.Test.YtaemhgmekggliaaNlriEnc
import Derived.Test.YtaemhgmekggliaaNlriRound
namespace Go.Proofs.Ytaemhgmekggliaa.PR
open Go.RowKit Mem Pfx Oct

/-- What the program's Encode tells. -/
def EncP (l : List Pf) (w : World) (e : Ending) (w' : World) : Prop :=
  (l.all good = false ∧ e = .returned (.tuple #[.slice none 0 0, .int .i64 1]) ∧ Below w.heap.size w w') ∨
  (l.all good = true ∧ ∃ A c, e = .returned (.tuple #[.slice A (encs l).length c, .int .i64 0]) ∧ w'.ownsRow w.heap.size 5 1 (.slice A (encs l).length c) (encs l).length (cells8 (encs l)) ∧ Below w.heap.size w w')
/-- A writer, and a prefix's box beside it. -/
structure EncSt (w0 : World) (P : Value) (l : List Nat) (F : Nat → Prop) (B : Nat) (a : Nat) (n : Int) (W : World) : Prop where
  wr : Wr W w0.heap.size P l F
  nb : ¬ F B
  lt : B < W.heap.size
  c0 : W.cell? ⟨B, 0, none⟩ = some (.int .u32 a)
  c1 : W.cell? ⟨B, 1, none⟩ = some (.int .i64 n)
  low : Below w0.heap.size w0 W
section
variable {w0 W W' : World} {P : Value} {l l' : List Nat} {F F' : Nat → Prop} {B a : Nat} {n : Int}
theorem EncSt.below (h : EncSt w0 P l F B a n W) (hb : Below W.heap.size W W') : EncSt w0 P l F B a n W' :=
  ⟨h.wr.below hb, h.nb, Nat.lt_of_lt_of_le h.lt hb.size, (hb.cell (p := ⟨B, 0, none⟩) h.lt).trans h.c0, (hb.cell (p := ⟨B, 1, none⟩) h.lt).trans h.c1, h.low.trans (hb.mono h.low.size)⟩
theorem EncSt.wrote (h : EncSt w0 P l F B a n W) (hw : Wr W' w0.heap.size P l' F') (ho : Only F W W') (hg : Grow F F' W) : EncSt w0 P l' F' B a n W' := by
  have hk : W'.heap[B]? = W.heap[B]? := ho.block B h.lt h.nb
  refine ⟨hw, fun hf => ?_, Nat.lt_of_lt_of_le h.lt ho.size, ?_, ?_, h.low.trans (ho.below (fun k hk => (h.wr.lt k hk).1) h.low.size)⟩
  · rcases hg B hf with h1 | h1
    · exact h.nb h1
    · have := h.lt; omega
  · have := h.c0; unfold World.cell? at this ⊢; simp only [hk]; exact this
  · have := h.c1; unfold World.cell? at this ⊢; simp only [hk]; exact this
theorem EncSt.start (h : Wr W w0.heap.size P l F) (hb : Below w0.heap.size w0 W) : EncSt w0 P l F W.heap.size a n (W.alloc (.cells #[.int .u32 a, .int .i64 n] 31)) := by
  obtain ⟨c0, c1⟩ := cells_two W (.int .u32 (a : Int)) (.int .i64 n) 31
  refine ⟨h.below ((Below.refl _ _).alloc (Nat.le_refl _) _), fun hf => ?_, by simp, c0, c1, hb.alloc hb.size _⟩
  have := (h.lt _ hf).2
  omega
end
theorem big_at {a i : Nat} (hi : i < 4) : (big a 4).take (i + 1) = (big a 4).take i ++ [a / 2 ^ (24 - 8 * i) % 256] := by
  rw [big4]
  match i, hi with
  | 0, _ => simp
  | 1, _ => simp
  | 2, _ => simp
  | 3, _ => simp
theorem lo8_wrap (x : Int) : lo8 (IntKind.i64.wrap x) = lo8 x := by
  unfold lo8
  rw [IntKind.wrap_i64]
  omega
set_option maxRecDepth 100000 in
set_option maxHeartbeats 4000000 in
theorem encode_any (v : Value) (l : List Pf) (w : World) (hv : Pfxs w v l) (hl : l.length ≤ 1000) : Calls Try.prog 7 #[v] w (EncP l w) := by
  have HV := Go.Lib.hid hv
  obtain ⟨A, c, rfl, hlc, hc⟩ := hv.form
  clear hv
  have h0 := wr_zero w (Nat.le_refl w.heap.size)
  have hb0 : Below w.heap.size w (w.alloc (.cells #[.slice none 0 0] 49)) := (Below.refl _ w).alloc (Nat.le_refl _) _
  go_enter Try.func7, Try.ntmps7
  go_wp2
  go_loopw [11] (fun v11 wx => ∃ (j : Nat) (F : Nat → Prop), j ≤ l.length ∧ v11 = .int .i64 j ∧ Hid ((l.take j).all good = true) ∧ Hid (Wr wx w.heap.size (.pointer (some ⟨w.heap.size, 0, none⟩)) (encs (l.take j)) F) ∧ Hid (Below w.heap.size w wx)) (fun v11 _ => l.length - (intOf v11).toNat)
  case atStart => exact ⟨0, _, Nat.zero_le _, rfl, Go.Lib.hid rfl, Go.Lib.hid h0, Go.Lib.hid hb0⟩
  case round =>
    obtain ⟨j, F, hj, rfl, hgj, hW, hb⟩ := hrel
    by_cases hlt : j < l.length
    · obtain ⟨p, hp⟩ : ∃ p, l[j]? = some p := ⟨_, List.getElem?_eq_getElem hlt⟩
      obtain ⟨b, off, rfl, hbl, k0, k1⟩ := (HV.out.keep hb.out).at_ hp
      have hok := (HV.out).2 p (List.mem_of_getElem? hp)
      have z0 : (0 : Int) ≤ (j : Int) := by omega
      have z1 : (j : Int) < (l.length : Int) := by omega
      obtain ⟨a, n⟩ := p
      dsimp only at k0 k1
      have HA := Go.Lib.hid (show a < 4294967296 from hok.1)
      have S0 := Go.Lib.hid (EncSt.start (a := a) (n := n) hW.out hb.out)
      have d0 := S0.out.c0
      have d1 := S0.out.c1
      have CS := Go.Lib.hid (fun (W : World) => size_any ⟨a, n⟩ W hok.1)
      unfold pV at CS
      dsimp only at CS
      have HAT := Go.Lib.hid (all_take hp)
      by_cases hgp : good ⟨a, n⟩ = true
      · have HLE := Go.Lib.hid (encs_len hgj.out)
        have HTL := Go.Lib.hid (show (l.take j).length = j by rw [List.length_take]; omega)
        obtain ⟨hn0, hn1⟩ := goodB_len hgp
        obtain ⟨k, rfl⟩ := Int.eq_ofNat_of_zero_le hn0
        obtain ⟨s, hs, hs4⟩ : ∃ s, sizeN ⟨a, (k : Int)⟩ = s + 1 ∧ s ≤ 4 := by
          have h1 := sizeN_le ⟨a, (k : Int)⟩
          have h2 : 1 ≤ sizeN ⟨a, (k : Int)⟩ := by unfold sizeN; rw [if_pos hgp]; omega
          exact ⟨sizeN ⟨a, (k : Int)⟩ - 1, by omega, by omega⟩
        have HSP := Go.Lib.hid (show (enc ⟨a, (k : Int)⟩) = [k] ++ (big a 4).take s by unfold enc; rw [hs]; simp)
        rw [hs] at CS
        obtain ⟨q, hq⟩ : ∃ q, q = s + 1 := ⟨_, rfl⟩
        rw [← hq] at CS
        have q1 : ((q : Int) == 0) = false := by simp; omega
        have wq : IntKind.i64.wrap ((q : Int) - 1) = (s : Int) := by rw [IntKind.wrap_i64]; omega
        have HGP := Go.Lib.hid hgp
        have HE := Go.Lib.hid (encs_take hp)
        have hk32 : (k : Int) ≤ 32 := hn1
        have hko : lo8 (k : Int) = k := by unfold lo8; omega
        have CU := Go.Lib.hid (fun (F : Nat → Prop) (W : World) (h : EncSt w (.pointer (some ⟨w.heap.size, 0, none⟩)) (encs (l.take j)) F wr.heap.size a (k : Int) W) => w8_put _ _ _ F (k : Int) W h.wr (by have h1 := HLE.out; rw [HTL.out] at h1; omega) h.low.size)
        rw [hko] at CU
        have y0 : (0 : Int) ≤ (s : Int) := by omega
        have y4 : (s : Int) ≤ 4 := by omega
        clear hp hgp hs hok hn0 hn1 hko hq
        go_wp2_with (first
          | (go_at_call 8; refine (CS.out _).mono ?_; rintro e w1 ⟨rfl, hb1⟩; have S1 := Go.Lib.hid (S0.out.below hb1); clear hb1 d0 d1; have d1 := S1.out.c1)
          | (go_at_call 21; refine (CU.out _ _ S1.out).mono ?_; rintro e w2 ⟨F2, rfl, hW2, ho2, hg2⟩; have S2 := Go.Lib.hid (S1.out.wrote hW2 ho2 hg2); clear hW2 ho2 hg2 d1))
        have CP := Go.Lib.hid place_any
        have CV := Go.Lib.hid (fun (F : Nat → Prop) (m : List Nat) (n : Int) (W : World) (h : EncSt w (.pointer (some ⟨w.heap.size, 0, none⟩)) (encs (l.take j) ++ m) F wr.heap.size a (k : Int) W) (hm : m.length ≤ 10) => w8_put _ _ _ F n W h.wr (by have h1 := HLE.out; rw [HTL.out] at h1; rw [List.length_append]; omega) h.low.size)
        have HS2 := Go.Lib.hid (show EncSt w (.pointer (some ⟨w.heap.size, 0, none⟩)) (encs (l.take j) ++ ([k] ++ (big a 4).take 0)) F2 wr.heap.size a (k : Int) w2 from S2.out)
        obtain ⟨wo, hwo⟩ : ∃ x, x = wr := ⟨_, rfl⟩
        subst hwo
        go_loopw [24] (fun v24 wx => ∃ (i : Nat) (F : Nat → Prop), i ≤ s ∧ v24 = .int .i64 i ∧ Hid (EncSt w (.pointer (some ⟨w.heap.size, 0, none⟩)) (encs (l.take j) ++ ([k] ++ (big a 4).take i)) F wo.heap.size a (k : Int) wx)) (fun v24 _ => 8 - (intOf v24).toNat)
        case atStart => exact ⟨0, F2, Nat.zero_le _, rfl, HS2⟩
        case round =>
          obtain ⟨i, F3, hi, rfl, S3⟩ := hrel
          by_cases his : i < s
          · have t0 : (0 : Int) ≤ (i : Int) := by omega
            have t1 : (i : Int) < (s : Int) := by omega
            obtain ⟨d, hd⟩ : ∃ d, d = 24 - 8 * i := ⟨_, rfl⟩
            have CPI := Go.Lib.hid (fun W => CP.out i (by omega) W)
            rw [← hd] at CPI
            have d24 : (d : Int) ≤ 24 := by omega
            have hd0 : (0 : Int) ≤ (d : Int) := by omega
            have HBA := Go.Lib.hid (big_at (a := a) (i := i) (by omega))
            rw [← hd] at HBA
            have D0 := Go.Lib.hid (S3.out.below (Below.refl wr.heap.size wr).drew)
            have e0 := D0.out.c0
            clear hd
            go_wp2
            go_region_held3 (fun w' => w'.cell? ⟨wo.heap.size, 0, none⟩ = some (.int .u32 a)) (assumption) (first
              | (go_at_call 22; refine (CPI.out _).mono ?_; rintro e x1 ⟨rfl, rfl⟩)
              | (go_at_call 21; refine (CV.out _ _ _ _ D0.out (by simp; omega)).mono ?_; rintro e x2 ⟨F4, rfl, hW4, ho4, hg4⟩; have S4 := Go.Lib.hid (D0.out.wrote hW4 ho4 hg4); clear hW4 ho4 hg4; have e1 := S4.out.c0))
            go_wp2
            go_roundw
            case rel =>
              refine ⟨i + 1, F4, his, by go_num, Go.Lib.hid ?_⟩
              have h := S4.out
              rw [HBA.out, ← List.append_assoc [k], ← List.append_assoc]
              have e9 : lo8 ((a : Int) / 2 ^ d) = a / 2 ^ d % 256 := by
                have e8 := lo8_div a (2 ^ d)
                rw [← e8]
                congr 2
              rw [← e9, ← lo8_wrap]
              exact h
            case measure => simp [intOf]; omega
          · obtain rfl : i = s := by omega
            have z2 : decide ((i : Int) < (i : Int)) = false := decide_eq_false (by omega)
            go_wp2
            go_roundw
            case rel =>
              refine ⟨j + 1, F3, hlt, by go_num, Go.Lib.hid ?_, Go.Lib.hid ?_, Go.Lib.hid S3.out.low⟩
              · rw [HAT.out, hgj.out, HGP.out]; rfl
              · rw [HE.out, HSP.out]
                exact S3.out.wr
            case measure => simp [intOf]; omega
      · have hbad : good ⟨a, n⟩ = false := by simpa using hgp
        have HBD := Go.Lib.hid (all_bad hp hbad)
        rw [show sizeN ⟨a, n⟩ = 0 by unfold sizeN; rw [hbad]; rfl] at CS
        clear hp hgp hbad hok
        go_wp2_with (go_at_call 8; refine (CS.out _).mono ?_; rintro e w1 ⟨rfl, hb1⟩; have S1 := Go.Lib.hid (S0.out.below hb1); clear hb1 d0 d1)
        go_ret2
        exact .inl ⟨HBD.out, rfl, S1.out.low⟩
    · have z1 : decide ((j : Int) < (l.length : Int)) = false := decide_eq_false (by omega)
      obtain rfl : j = l.length := by omega
      have HG := hgj.out
      rw [List.take_length] at HG
      have HL := Go.Lib.hid (encs_len HG)
      have HG2 := Go.Lib.hid HG
      have CB := Go.Lib.hid (wbytes_any _ _ _ F wr (by have h := hW.out; rw [List.take_length] at h; exact h) (by have := HL.out; omega))
      clear HG
      go_wp2_with (go_at_call 23; refine (CB.out).mono ?_; rintro e w1 ⟨A1, c1, rfl, ho, hb1⟩; have O1 := Go.Lib.hid (own_base ho hb.out.size); have B1 := Go.Lib.hid (hb.out.trans (hb1.mono hb.out.size)); clear ho hb1)
      go_ret2
      exact .inr ⟨HG2.out, _, _, rfl, O1.out, B1.out⟩
end Go.Proofs.Ytaemhgmekggliaa.PR
