/- walk.widest and walk.Ends. -/
import Derived.Test.YtgjdpmpbldofpaaDoorWlkTz
import Derived.Test.YtgjdpmpbldofpaaDoorWlkFill
import Derived.Test.YtgjdpmpbldofpaaDoorPfxWalkC
import Derived.Test.YtgjdpmpbldofpaaDoorShelf
import Derived.Lib.ItoaNum
import Derived.Lib.QuietBelow
namespace Go.Proofs.YtgjdpmpbldofpaaDoor.Wlk
open Go.RowKit Go.Sort Mem Pfx PR

theorem wide_is {a e : Nat} (h : a < e) (he : e ≤ 4294967296) : min (Lib.bitLen (e - a) - 1) (Lib.ctz 32 a) = blk a e := by
  have h0 : e - a ≠ 0 := by omega
  obtain ⟨b1, b2, b3⟩ := Lib.bitLenAux_bounds 64 (e - a) (by omega) h0
  have hbl : Lib.bitLen (e - a) = Lib.bitLenAux 64 (e - a) := rfl
  rw [← hbl] at b1 b2 b3
  have hp32 : (2 : Nat) ^ 32 = 4294967296 := by decide
  have hle : Lib.bitLen (e - a) - 1 ≤ 32 := by
    refine pow_ge (i := Lib.bitLen (e - a) - 1) (j := 32) ?_
    omega
  generalize Lib.bitLen (e - a) = L at b1 b2 b3 hle
  symm
  have hL : 2 ^ (L - 1 + 1) = 2 ^ L := by congr 1; omega
  by_cases ha : a = 0
  · have hc : Lib.ctz 32 a = 32 := by unfold Lib.ctz; rw [if_pos ha]
    rw [hc, Nat.min_eq_left hle]
    refine blk_eq hle (by rw [ha]; simp) (by omega) (.inr (.inr (by rw [hL]; omega)))
  · obtain ⟨m, hm, hk⟩ := Lib.ctzFrom_spec 32 a (by omega) (by omega)
    have hc : Lib.ctz 32 a = Lib.ctzFrom 32 a := by unfold Lib.ctz; rw [if_neg ha]
    rw [hc]
    generalize Lib.ctzFrom 32 a = k at hm hk
    have hd : 2 ^ k ∣ a := ⟨2 * m + 1, hm⟩
    rcases Nat.le_total (L - 1) k with hlk | hlk
    · rw [Nat.min_eq_left hlk]
      refine blk_eq hle (Nat.mod_eq_zero_of_dvd (Nat.dvd_trans (Nat.pow_dvd_pow 2 hlk) hd)) (by omega) (.inr (.inr (by rw [hL]; omega)))
    · rw [Nat.min_eq_right hlk]
      have h2 := pow_mono hlk
      refine blk_eq (by omega) (Nat.mod_eq_zero_of_dvd hd) (by omega) (.inr (.inl ?_))
      rw [hm, Nat.pow_succ, Nat.mul_mod_mul_left, show (2 * m + 1) % 2 = 1 by omega, Nat.mul_one]
      have := pow_pos k
      omega
set_option maxHeartbeats 4000000 in
theorem widest_any (a b : Nat) (hab : a ≤ b) (hb : b < 4294967296) (w : World) (hT : TabZ w) : Calls Tryd.prog 29 #[.int .u32 a, .int .u32 b] w fun e w' => e = .returned (.agg #[.int .u32 a, .int .i64 (mk a (blk a (b + 1))).n]) ∧ Below w.heap.size w w' := by
  have hw := wide_is (a := a) (e := b + 1) (by omega) (by omega)
  have hle := blk_le a (b + 1)
  have hB := below_new w (.cells #[.int .u32 0, .int .i64 0] 24)
  have HB := Go.Lib.hid hB
  have CL := Go.Lib.hid (fun (W : World) => show Calls Tryd.prog 38 #[.int .u64 ((b - a + 1 : Nat) : Int)] W (fun e w' => e = .returned (.int .i64 (Lib.bitLen (b - a + 1) : Nat)) ∧ w' = W) from Tryd.bits_Len64 ((b - a + 1 : Nat) : Int) W (by omega) (by omega))
  have CT := Go.Lib.hid (fun (W : World) (h : Below w.heap.size w W) => tz_any a (by omega) W (tabz_below hT h))
  rw [show b + 1 - a = b - a + 1 by omega] at hw
  have hbl1 : 1 ≤ Lib.bitLen (b - a + 1) := (Lib.bitLenAux_bounds 64 (b - a + 1) (by omega) (by omega)).1
  have hbl2 : Lib.bitLen (b - a + 1) ≤ 64 := Lib.bitLen_le _ 64 (by omega) (by have : (2 : Nat) ^ 64 = 18446744073709551616 := by decide
                                                                               omega)
  have hn : (mk a (blk a (b + 1))).n = 32 - (blk a (b + 1) : Int) := by unfold mk; dsimp only; omega
  rw [hn]
  obtain ⟨R, hR⟩ : ∃ R : Int, R = ((b - a + 1 : Nat) : Int) := ⟨_, rfl⟩
  obtain ⟨D, hD⟩ : ∃ D : Int, D = (b : Int) - (a : Int) := ⟨_, rfl⟩
  generalize Lib.bitLen (b - a + 1) = L at *
  generalize Lib.ctz 32 a = k at *
  generalize blk a (b + 1) = j at *
  rw [← hR] at CL
  have e1 : IntKind.u32.wrap ((b : Int) - (a : Int)) = R - 1 := by rw [IntKind.wrap_u32]; omega
  have e2 : IntKind.u64.wrap (R - 1) = R - 1 := by rw [IntKind.wrap_u64]; omega
  have e3 : IntKind.u64.wrap (R - 1 + 1) = R := by rw [IntKind.wrap_u64]; omega
  have e4 : IntKind.i64.wrap ((L : Int) - 1) = (L : Int) - 1 := by rw [IntKind.wrap_i64]; omega
  have e5 : min ((L : Int) - 1) (k : Int) = (j : Int) := by omega
  have e6 : IntKind.i64.wrap (32 - (j : Int)) = 32 - (j : Int) := by rw [IntKind.wrap_i64]; omega
  have b1 : (b : Int) < 4294967296 := by omega
  have b2 : (a : Int) ≤ (b : Int) := by omega
  have b3 : 1 ≤ R := by omega
  have b4 : R ≤ 4294967296 := by omega
  have b5 : (b : Int) - (a : Int) = R - 1 := by omega
  have b6 : (j : Int) ≤ 32 := by omega
  have HRR := Go.Lib.hid hR
  clear hw hB hT hbl1 hbl2 hR hD hn
  go_enter Tryd.func29, Tryd.ntmps29
  go_wp2_with (first
    | (go_at_call 38; refine (CL.out _).mono ?_; rintro e w1 ⟨rfl, rfl⟩)
    | (go_at_call 39; refine (CT.out _ HB.out).mono ?_; rintro e w2 ⟨rfl, rfl⟩))
  refine bodyPost_ret (v := .agg #[.int .u32 (a : Int), .int .i64 (32 - (j : Int))]) (by simp [results, Tryd.results29, go_sem]) rfl ⟨rfl, ?_⟩
  exact below_new w _
theorem xor_max (m : Nat) (hm : m < 4294967296) : bits .xor .u32 IntKind.u32.max (m : Int) = ((4294967295 - m : Nat) : Int) := by
  have h := u32_xor_nat 4294967295 m (by decide) hm
  rw [show IntKind.u32.max = ((4294967295 : Nat) : Int) from rfl, h]
  congr 1
  apply Nat.eq_of_testBit_eq
  intro i
  have e : 4294967295 - m = 2 ^ 32 - (m + 1) := by have : (2 : Nat) ^ 32 = 4294967296 := by decide
                                                   omega
  rw [e, Nat.testBit_two_pow_sub_succ (by omega), Nat.testBit_xor, show 4294967295 = 2 ^ 32 - 1 by decide, Nat.testBit_two_pow_sub_one]
  by_cases hi : i < 32
  · simp [hi]
  · have : m.testBit i = false := by
      cases h : m.testBit i
      · rfl
      · exact absurd (testBit_lt hm h) hi
    simp [hi, this]
/-- The last address of a prefix, as Ends reckons it. -/
theorem last_or (p : Pf) (hp : G p) : bits .or .u32 (p.a : Int) ((sz p - 1 : Nat) : Int) = ((p.a + sz p - 1 : Nat) : Int) := by
  have hs := sz_pos p
  have ht := hp.top
  have ha := hp.2
  rw [u32_or_nat p.a (sz p - 1) ha (by omega)]
  obtain ⟨c, hc⟩ := hp.dvd
  have h := Nat.two_pow_add_eq_or_of_lt (i := ex p) (b := sz p - 1) (by show sz p - 1 < sz p; omega) c
  rw [← hc] at h
  rw [← h]
  congr 1
  omega
set_option maxHeartbeats 4000000 in
theorem ends_bad (p : Pf) (hok : p.a < 4294967296) (hg : good p = false) (w : World) : Calls Tryd.prog 16 #[.agg #[.int .u32 p.a, .int .i64 p.n]] w fun e w' => e = .returned (.tuple #[.int .u32 0, .int .u32 0, .bool false]) ∧ Below w.heap.size w w' := by
  have CG := Go.Lib.hid (fun W => good_any p.a p.n hok W)
  rw [show goodB p.a p.n = false from hg] at CG
  have HB := Go.Lib.hid (below_new w (.cells #[.int .u32 (p.a : Int), .int .i64 p.n] 24))
  obtain ⟨pa, pn⟩ := p
  dsimp only at CG HB ⊢
  clear hg hok
  go_enter Tryd.func16, Tryd.ntmps16
  go_wp2_with (go_at_call 26; refine (CG.out _).mono ?_; rintro e w1 ⟨rfl, hb1⟩; replace HB := Go.Lib.hid (Pfx.Below.tr HB.out hb1); clear hb1)
  refine bodyPost_ret (v := .tuple #[.int .u32 0, .int .u32 0, .bool false]) (by simp [results, Tryd.results16, go_sem]) rfl ⟨rfl, HB.out⟩
set_option maxHeartbeats 4000000 in
theorem ends_any (p : Pf) (hp : G p) (w : World) : Calls Tryd.prog 16 #[.agg #[.int .u32 p.a, .int .i64 p.n]] w fun e w' => e = .returned (.tuple #[.int .u32 p.a, .int .u32 ((p.a + sz p - 1 : Nat) : Int), .bool true]) ∧ Below w.heap.size w w' := by
  have CG := Go.Lib.hid (fun W => good_any p.a p.n hp.2 W)
  rw [show goodB p.a p.n = true from hp.1] at CG
  have HB := Go.Lib.hid (below_new w (.cells #[.int .u32 (p.a : Int), .int .i64 p.n] 24))
  obtain ⟨c0, c1⟩ := cells_two w (.int .u32 (p.a : Int)) (.int .i64 p.n) 24
  have hl := hp.len
  have hor := last_or p hp
  have hc : clampN p.n = p.n.toNat := by
    have := clampN_in p.n.toNat (by omega)
    rw [Int.toNat_of_nonneg hl.1] at this
    exact this
  have CM := same_below (mask_any p.n)
  rw [hc] at CM
  have hs := sz_pos p
  have ht := hp.top
  have hms : ((maskN p.n.toNat : Nat) : Int) = 4294967296 - (sz p : Int) := by
    have h1 : sz p = 2 ^ (32 - p.n.toNat) := rfl
    have h2 := pow_le (32 - p.n.toNat) (by omega)
    unfold maskN
    rw [← h1] at h2 ⊢
    omega
  rw [hms] at CM
  obtain ⟨z, hz⟩ : ∃ z : Int, z = ((p.a + sz p - 1 : Nat) : Int) := ⟨_, rfl⟩
  rw [← hz] at hor ⊢
  obtain ⟨s, hse⟩ : ∃ s : Nat, s = sz p := ⟨_, rfl⟩
  have hs32 : s ≤ 4294967296 := by omega
  rw [← hse] at CM hor hs
  have hor2 : bits .or .u32 (p.a : Int) ((s : Int) - 1) = z := by rw [← hor]; congr 1; omega
  have hx := xor_max (4294967296 - s) (by omega)
  rw [show ((4294967296 - s : Nat) : Int) = 4294967296 - (s : Int) by omega, show ((4294967295 - (4294967296 - s) : Nat) : Int) = (s : Int) - 1 by omega] at hx
  have HCM := Go.Lib.hid CM
  obtain ⟨pa, pn⟩ := p
  dsimp only at CG HB c0 c1 HCM hor2 ⊢
  clear hp hl hor hc ht hms hz hse CM
  go_enter Tryd.func16, Tryd.ntmps16
  go_wp2_with (go_at_call 26; refine (CG.out _).mono ?_; rintro e w1 ⟨rfl, hb1⟩; replace c0 := keeps hb1 c0; replace c1 := keeps hb1 c1; replace HB := Go.Lib.hid (Pfx.Below.tr HB.out hb1); clear hb1)
  have cM := inRegion HCM.out w1
  have k0 := cell_regrown c0
  have k1 := cell_regrown c1
  clear c0 c1
  refine wp_region_quiet_below (by kernel_rfl) (by kernel_rfl) ?_
  repeat (first | go_big_quiet_step (exact cM _ _) | quiet_step (exact cM _ _))
  refine wpQuiet_nil ?_
  intro _ hw'
  obtain ⟨⟨dq, osq⟩, hw2⟩ := hw'
  subst hw2
  go_wp2
  refine bodyPost_ret (v := .tuple #[.int .u32 pa, .int .u32 z, .bool true]) (by simp [results, Tryd.results16, go_sem]) rfl ⟨rfl, ?_⟩
  exact Pfx.Below.tr HB.out (below_regrown w1 dq osq)
end Go.Proofs.YtgjdpmpbldofpaaDoor.Wlk
