/- The contract of ParseAddr: it reads just what stepAddr reads. -/
import Derived.Test.YtmdfihmmencdoaaDoorNumber
namespace Go.Proofs.YtmdfihmmencdoaaDoor.Pfx
open Go.RowKit Go.Sort

/-- strings.Cut, over a world that holds some number for the library's length of a short text. -/
theorem cut_call (s sep : ByteArray) (m : Int) (w : World) (hs : s.size < 4294967281) (hm : w.cell? ⟨0, 0, none⟩ = some (.int .i64 m)) :
    Calls Tryd.prog 35 #[.string s, .string sep] w fun e w' => e = .returned (.tuple #[.string (strOf (Lib.cut s.data.toList sep.data.toList).1), .string (strOf (Lib.cut s.data.toList sep.data.toList).2.1), .bool (Lib.cut s.data.toList sep.data.toList).2.2]) ∧ Below w.heap.size w w' :=
  (Tryd.strings_Cut s sep m w hs hm).mono fun _ _ ⟨he, n, hn⟩ => ⟨he, hn ▸ below_drewN (Below.refl _ _) n⟩

theorem cut_short (s : List UInt8) (c : UInt8) : (Lib.cut s [c]).1.length ≤ s.length ∧ (Lib.cut s [c]).2.1.length ≤ s.length := by
  rcases cut_cases s c with ⟨a, b, e, _, ec⟩ | ⟨_, ec⟩
  · rw [ec, e]; simp; omega
  · rw [ec]; simp

theorem or_add (acc n r : Nat) (hacc : acc % 256 ^ (r + 1) = 0) (hn : n ≤ 255) (hlt : acc + 256 ^ (r + 1) ≤ 4294967296) :
    bits .or .u32 (acc : Int) ((n : Int) * 2 ^ (8 * r) % 4294967296) = ((acc + n * 256 ^ r : Nat) : Int) ∧ acc + n * 256 ^ r + 256 ^ r ≤ 4294967296 ∧ (acc + n * 256 ^ r) % 256 ^ r = 0 := by
  have e0 : (2 : Nat) ^ (8 * r) = 256 ^ r := by rw [Nat.pow_mul]
  have hp : 0 < 256 ^ r := Nat.pow_pos (by decide)
  have e1 : 256 ^ (r + 1) = 256 ^ r * 256 := Nat.pow_succ ..
  have h1 : n * 256 ^ r ≤ 255 * 256 ^ r := Nat.mul_le_mul_right _ hn
  have h2 : n * 256 ^ r < 2 ^ (8 * (r + 1)) := by rw [Nat.pow_mul, e1]; omega
  have h3 : n * 256 ^ r < 4294967296 := by rw [e1] at hlt; omega
  have h4 : acc < 4294967296 := by rw [e1] at hlt; omega
  have e2 : ((n : Int) * 2 ^ (8 * r) % 4294967296) = ((n * 256 ^ r : Nat) : Int) := by
    have : ((n : Int) * 2 ^ (8 * r)) = ((n * 256 ^ r : Nat) : Int) := by rw [← e0]; push_cast; rfl
    rw [this, Int.emod_eq_of_lt (Int.natCast_nonneg _) (by omega)]
  have h5 : acc = 2 ^ (8 * (r + 1)) * (acc / 2 ^ (8 * (r + 1))) := by
    rw [Nat.pow_mul, show (2 : Nat) ^ 8 = 256 from rfl]
    have := Nat.div_add_mod acc (256 ^ (r + 1))
    omega
  refine ⟨?_, by rw [e1] at hlt; omega, ?_⟩
  · rw [e2, u32_or_nat acc _ h4 h3]
    congr 1
    rw [h5, ← Nat.two_pow_add_eq_or_of_lt h2]
  · rw [Nat.add_mul_mod_self_right]
    rw [e1] at hacc
    exact Nat.mod_eq_zero_of_dvd (Nat.dvd_trans (Nat.dvd_mul_right _ _) (Nat.dvd_of_mod_eq_zero hacc))

/-- What ParseAddr hands back. -/
def addrV (o : Option Nat) : Value := match o with | some a => .tuple #[.int .u32 a, .int .i64 0] | none => .tuple #[.int .u32 0, .int .i64 2]

theorem parseAddr_any (s : List UInt8) (m : Int) (w : World) (hs : s.length < 4294967281) (hm : w.cell? ⟨0, 0, none⟩ = some (.int .i64 m)) :
    Calls Tryd.prog 26 #[.string (strOf s)] w fun e w' => e = .returned (addrV (stepAddr 4 s 0)) ∧ Below w.heap.size w w' := by
  obtain ⟨R, hR⟩ : ∃ R, R = stepAddr 4 s 0 := ⟨_, rfl⟩
  rw [← hR]
  have HR := Go.Lib.hid hR
  have HS := Go.Lib.hid hs
  have HM := Go.Lib.hid hm
  clear hR hs hm
  go_enter Tryd.func26, Tryd.ntmps26
  go_wp2_with fail
  go_loopw [0, 4, 5] (fun x acc i wr => ∃ (r : Nat) (t : List UInt8) (v : Nat), r ≤ 4 ∧ t.length < 4294967281 ∧ x = .string (strOf t) ∧ acc = .int .u32 (v : Int) ∧ i = .int .i64 (8 * (r : Int) - 8) ∧ v % 256 ^ r = 0 ∧ v + 256 ^ r ≤ 4294967296 ∧ stepAddr r t v = R ∧ Below w.heap.size w wr) (fun _ _ i _ => (intOf i + 8).toNat)
  case atStart => exact ⟨4, s, 0, by omega, HS.out, rfl, rfl, rfl, by decide, by decide, HR.out.symm, Below.refl _ _⟩
  case round =>
    obtain ⟨r, t, v, hr, ht, rfl, rfl, rfl, hv, hv2, hst, hb⟩ := hrel
    cases r with
    | zero =>
      have HE : Hid (R = some v) := Go.Lib.hid (by rw [← hst]; rfl)
      clear hst hv hv2
      go_wp2_with fail
      go_ret2
      exact ⟨by rw [HE.out]; rfl, hb⟩
    | succ r =>
      obtain ⟨A, B, pt, hcut⟩ : ∃ A B pt, Lib.cut t [46] = (A, B, pt) := ⟨_, _, _, rfl⟩
      have hlen := cut_short t 46
      rw [hcut] at hlen
      simp only at hlen
      have hc := keeps hb HM.out
      have hC := cut_call (strOf t) ⟨#[46]⟩ m wr (by rw [strOf_size]; exact ht) hc
      rw [show (strOf t).data.toList = t by simp [strOf], show (ByteArray.mk #[46]).data.toList = [46] from rfl, hcut] at hC
      have CC := Go.Lib.hid hC
      have hN := number_any (strOf A) 255
      rw [show (strOf A).data.toList = A by simp [strOf]] at hN
      have ei : (8 * ((r + 1 : Nat) : Int) - 8) = 8 * (r : Int) := by omega
      rw [ei]
      rw [stepAddr, hcut] at hst
      simp only at hst
      have hBl : B.length < 4294967281 := by omega
      clear hC hc hcut hlen ei ht
      cases hP : numP 255 A with
      | none =>
        rw [hP] at hst hN
        have HN := Go.Lib.hid hN
        have HE : Hid (R = none) := Go.Lib.hid hst.symm
        clear hst hN hP hv hv2 hBl
        go_wp2_with (first | (go_at_call 35; refine CC.out.mono ?_; rintro e w1 ⟨rfl, hb1⟩) | (go_at_call 36; refine (HN.out _).mono ?_; rintro e w2 ⟨rfl, rfl⟩; unfold numV))
        go_ret2
        exact ⟨by rw [HE.out]; rfl, Below.tr hb hb1⟩
      | some n =>
        have hn := (numP_sound hP).2.1
        rw [hP] at hst hN
        have HN := Go.Lib.hid hN
        simp only at hst
        clear hN hP
        obtain ⟨o1, o2, o3⟩ := or_add v n r hv hn hv2
        have hn1 : (n : Int) ≤ 255 := by omega
        clear hv hv2
        by_cases hr0 : r = 0
        · subst hr0
          cases pt with
          | false =>
            have HE : Hid (stepAddr 0 B (v + n * 256 ^ 0) = R) := Go.Lib.hid hst
            have O2 := Go.Lib.hid o2
            have O3 := Go.Lib.hid o3
            have o4 : bits .or .u32 (v : Int) (n : Int) = ((v + n : Nat) : Int) := by
              simp only [Nat.mul_zero, Nat.pow_zero, Nat.mul_one, Int.pow_zero, Int.mul_one] at o1
              rwa [Int.emod_eq_of_lt (by omega) (by omega)] at o1
            clear hst o1 o2 o3
            go_wp2_with (first | (go_at_call 35; refine CC.out.mono ?_; rintro e w1 ⟨rfl, hb1⟩) | (go_at_call 36; refine (HN.out _).mono ?_; rintro e w2 ⟨rfl, rfl⟩; unfold numV))
            go_roundw
            case rel => exact ⟨0, B, v + n, by omega, hBl, rfl, by go_num, rfl, by simp [Nat.mod_one], by have := O2.out; simp only [Nat.pow_zero, Nat.mul_one] at this ⊢; exact this, by have := HE.out; simp only [Nat.pow_zero, Nat.mul_one] at this; exact this, Below.tr hb hb1⟩
            case measure => simp [intOf]
          | true =>
            have HE : Hid (R = none) := Go.Lib.hid hst.symm
            clear hst o1 o2 o3
            go_wp2_with (first | (go_at_call 35; refine CC.out.mono ?_; rintro e w1 ⟨rfl, hb1⟩) | (go_at_call 36; refine (HN.out _).mono ?_; rintro e w2 ⟨rfl, rfl⟩; unfold numV))
            go_ret2
            exact ⟨by rw [HE.out]; rfl, Below.tr hb hb1⟩
        · have hr1 : (0 : Int) < 8 * (r : Int) := by omega
          have hr2 : 0 < r := by omega
          have hd : decide (0 < r) = true := decide_eq_true hr2
          rw [hd] at hst
          clear hd
          cases pt with
          | true =>
            have HE : Hid (stepAddr r B (v + n * 256 ^ r) = R) := Go.Lib.hid hst
            have O2 := Go.Lib.hid o2
            have O3 := Go.Lib.hid o3
            clear hst o2 o3
            go_wp2_with (first | (go_at_call 35; refine CC.out.mono ?_; rintro e w1 ⟨rfl, hb1⟩) | (go_at_call 36; refine (HN.out _).mono ?_; rintro e w2 ⟨rfl, rfl⟩; unfold numV))
            go_roundw
            case rel => exact ⟨r, B, v + n * 256 ^ r, by omega, hBl, rfl, by congr 1, rfl, O3.out, O2.out, HE.out, Below.tr hb hb1⟩
            case measure => simp [intOf]; omega
          | false =>
            have HE : Hid (R = none) := Go.Lib.hid hst.symm
            clear hst o1 o2 o3
            go_wp2_with (first | (go_at_call 35; refine CC.out.mono ?_; rintro e w1 ⟨rfl, hb1⟩) | (go_at_call 36; refine (HN.out _).mono ?_; rintro e w2 ⟨rfl, rfl⟩; unfold numV))
            go_ret2
            exact ⟨by rw [HE.out]; rfl, Below.tr hb hb1⟩

end Go.Proofs.YtmdfihmmencdoaaDoor.Pfx
