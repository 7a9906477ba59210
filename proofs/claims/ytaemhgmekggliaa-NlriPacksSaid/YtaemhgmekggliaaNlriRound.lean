/- What was encoded is decoded again, as mathematics. -/
import Derived.Test.YtaemhgmekggliaaNlriEnc
import Derived.Test.YtaemhgmekggliaaNlriDec
namespace Go.Proofs.Ytaemhgmekggliaa.PR
open Go.RowKit Mem Pfx Oct

theorem val_app (l : List Nat) (b : Nat) : val (l ++ [b]) = val l * 256 + b := val_snoc l b
theorem fill_app {a k : Nat} {r : List Nat} (hk : k ≤ 4) : fill ((big a 4).take k ++ r) k = (big a 4).take k ++ List.replicate (4 - k) 0 := by
  unfold fill
  rw [List.take_left' (by rw [List.length_take, big_len]; omega)]
/-- Four bytes of which those behind the first k are nought. -/
theorem val_fill {a k : Nat} (ha : a < 4294967296) (hk : k ≤ 4) (h : a % 256 ^ (4 - k) = 0) : val ((big a 4).take k ++ List.replicate (4 - k) 0) = a := by
  rw [big4]
  match k, hk with
  | 0, _ => simp [val] at h ⊢; omega
  | 1, _ => simp [val] at h ⊢; omega
  | 2, _ => simp [val] at h ⊢; omega
  | 3, _ => simp [val] at h ⊢; omega
  | 4, _ => simp [val]; omega
theorem good_low {a n : Nat} (hn : n ≤ 32) (h : cutN a n = a) : a % 256 ^ (4 - span n) = 0 := by
  have h1 := (cut_iff_mod a n).1 h
  have h2 : (256 : Nat) ^ (4 - span n) = 2 ^ (8 * (4 - span n)) := by rw [Nat.pow_mul]
  have h3 : 8 * (4 - span n) ≤ 32 - n := by unfold span; omega
  rw [h2]
  exact Nat.mod_eq_zero_of_dvd (Nat.dvd_trans (Nat.pow_dvd_pow 2 h3) (Nat.dvd_of_mod_eq_zero h1))
theorem enc_form {p : Pf} (h : good p = true) : enc p = p.n.toNat :: (big p.a 4).take (span p.n.toNat) := by
  unfold enc
  congr 2
  unfold sizeN span
  rw [if_pos h]
  omega
theorem dec_enc {p : Pf} (hg : good p = true) (ha : p.a < 4294967296) (r : List Nat) : dec val (enc p ++ r) = (dec val r).map (p :: ·) := by
  obtain ⟨a, n⟩ := p
  obtain ⟨h0, h1⟩ := goodB_len hg
  obtain ⟨k, rfl⟩ := Int.eq_ofNat_of_zero_le h0
  have hk : k ≤ 32 := by
    have h1' : (k : Int) ≤ 32 := h1
    omega
  have hc : cutN a k = a := goodB_cut hg
  have hs := span_le hk
  have hl : ((big a 4).take (span k)).length = span k := by rw [List.length_take, big_len]; omega
  rw [enc_form hg]
  show dec val (k :: ((big a 4).take (span k) ++ r)) = _
  rw [dec_ok val hk (by rw [List.length_append, hl]; omega), List.drop_left' hl]
  have e : elemOf val k ((big a 4).take (span k) ++ r) = ⟨a, (k : Int)⟩ := by
    unfold elemOf
    rw [fill_app hs, val_fill ha hs (good_low hk hc), hc]
  rw [e]
theorem dec_encs : ∀ {l : List Pf}, l.all good = true → Oks l → dec val (encs l) = some l
  | [], _, _ => by simp [encs, dec_nil]
  | p :: l, hg, ho => by
    simp only [List.all_cons, Bool.and_eq_true] at hg
    have ih := dec_encs hg.2 (fun q hq => ho q (by simp [hq]))
    have e : encs (p :: l) = enc p ++ encs l := by simp [encs]
    rw [e, dec_enc hg.1 (ho p (by simp)).1, ih]
    rfl
theorem encs_len : ∀ {l : List Pf}, l.all good = true → (encs l).length ≤ 5 * l.length
  | [], _ => by simp [encs]
  | p :: l, hg => by
    simp only [List.all_cons, Bool.and_eq_true] at hg
    have ih := encs_len hg.2
    have e : encs (p :: l) = enc p ++ encs l := by simp [encs]
    have := sizeN_le p
    rw [e, List.length_append, enc_len hg.1, List.length_cons]
    omega
theorem encs_small : ∀ {l : List Pf}, l.all good = true → Small (encs l)
  | [], _ => small_nil
  | p :: l, hg => by
    simp only [List.all_cons, Bool.and_eq_true] at hg
    have e : encs (p :: l) = enc p ++ encs l := by simp [encs]
    rw [e]
    exact (enc_small hg.1).append (encs_small hg.2)
end Go.Proofs.Ytaemhgmekggliaa.PR
