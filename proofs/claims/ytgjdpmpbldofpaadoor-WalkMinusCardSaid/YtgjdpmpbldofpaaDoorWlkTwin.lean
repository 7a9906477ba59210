/- Halves told by what two prefixes have in common. It speaks of no function of the program. -/
import Derived.Test.YtgjdpmpbldofpaaDoorWlkHalves
namespace Go.Proofs.YtgjdpmpbldofpaaDoor.Wlk
open Go.RowKit Mem Pfx PR

/-- How long what both have in common is. -/
def comK (q p : Pf) : Nat := comN q.a q.n.toNat p.a p.n.toNat
theorem cut_G {a n : Nat} (ha : a < 4294967296) (hn : n ≤ 32) : G ⟨cutN a n, (n : Int)⟩ := by
  refine ⟨?_, Nat.lt_of_le_of_lt (cutN_le a n) ha⟩
  unfold good
  dsimp only
  rw [goodB_in hn, decide_eq_true_iff, cut_iff_mod]
  unfold cutN
  exact Nat.mul_mod_left _ _
theorem com_G {q p : Pf} (hq : G q) (hp : G p) : G ⟨cutN q.a (comK q p), (comK q p : Int)⟩ := cut_G hq.2 (com_parts q.a q.n.toNat p.a p.n.toNat hq.2 hp.2).2.2.1
theorem twin_com {q p : Pf} (hq : G q) (hp : G p) (ht : Twin q p) : comK q p + 1 = q.n.toNat ∧ cutN q.a (comK q p) = q.a := by
  obtain ⟨t1, t2, t3⟩ := ht
  obtain ⟨-, hlt, -, -⟩ := twin_parent hq hp ⟨t1, t2, t3⟩
  have l1 := hq.len
  have l2 := hp.len
  have hk : q.n.toNat = p.n.toNat := by unfold ex at t1; omega
  have hk1 : 1 ≤ q.n.toNat := by unfold ex at hlt; omega
  obtain ⟨k, hkk⟩ : ∃ k, q.n.toNat = k + 1 := ⟨q.n.toNat - 1, by omega⟩
  have hk31 : k ≤ 31 := by omega
  have hex : ex q = 31 - k := by unfold ex; omega
  have hD : 2 ^ (32 - k) = 2 ^ (31 - k) * 2 := pow_split k (by omega)
  have hps := pow_pos (31 - k)
  rw [hex, show 31 - k + 1 = 32 - k by omega] at t3
  have hpa : p.a = q.a + 2 ^ (31 - k) := by rw [t2]; unfold sz; rw [hex]
  have e1 : cutN q.a k = q.a := (cut_iff_mod q.a k).2 (Nat.mod_eq_zero_of_dvd t3)
  have e2 : cutN p.a k = q.a := by
    obtain ⟨c, hc⟩ := t3
    unfold cutN
    rw [hpa, hc, Nat.mul_add_div (by omega), Nat.div_eq_of_lt (a := 2 ^ (31 - k)) (by omega), Nat.add_zero, Nat.mul_comm]
  have a1 : k ≤ alikeN q.a p.a := (alike_iff q.a p.a k hq.2 hp.2 (by omega)).2 (by rw [e1, e2])
  have a2 : ¬ k + 1 ≤ alikeN q.a p.a := by
    rw [alike_iff q.a p.a (k + 1) hq.2 hp.2 (by omega)]
    have g1 : cutN q.a (k + 1) = q.a := goodB_cut (by rw [← hkk, Int.toNat_of_nonneg l1.1]; exact hq.1)
    have g2 : cutN p.a (k + 1) = p.a := goodB_cut (by rw [← hkk, hk, Int.toNat_of_nonneg l2.1]; exact hp.1)
    rw [g1, g2]
    omega
  have hc : comK q p = k := by unfold comK comN; omega
  rw [hc]
  exact ⟨hkk.symm, e1⟩
/-- What the program asks is whether they are halves. -/
theorem hv_twin {q p : Pf} (hq : G q) (hp : G p) : hvB (cutN q.a (comK q p)) (comK q p) q p = twinB q p := by
  have l1 := hq.len
  have l2 := hp.len
  refine Bool.eq_iff_iff.2 ?_
  rw [twinB_iff]
  unfold hvB
  simp only [Bool.and_eq_true, decide_eq_true_iff]
  constructor
  · rintro ⟨⟨h1, h2, h3⟩, h4, h5⟩
    have hex : ex q = 31 - comK q p := by unfold ex; omega
    have hex2 : ex p = 31 - comK q p := by unfold ex; omega
    refine ⟨by rw [hex, hex2], ?_, ?_⟩
    · rw [← h4]
      unfold highN sz
      rw [h2, hex]
    · rw [hex, show 31 - comK q p + 1 = 32 - comK q p by omega, ← h2]
      exact ⟨_, (Nat.mul_comm _ _)⟩
  · intro ht
    obtain ⟨h1, h2⟩ := twin_com hq hp ht
    have hlt : comK q p < 32 := by omega
    have hex : ex q = 31 - comK q p := by unfold ex; omega
    have t1 := ht.1
    unfold ex at t1
    refine ⟨⟨hlt, h2, by omega⟩, ?_, by omega⟩
    rw [h2]
    unfold highN
    rw [ht.2.1]
    unfold sz
    rw [hex]
theorem com_parent {q p : Pf} (hq : G q) (hp : G p) (ht : Twin q p) : (⟨cutN q.a (comK q p), (comK q p : Int)⟩ : Pf) = parent q := by
  obtain ⟨h1, h2⟩ := twin_com hq hp ht
  have l1 := hq.len
  rw [h2]
  unfold parent mk
  have : 32 - (ex q + 1) = comK q p := by unfold ex; omega
  rw [this]
end Go.Proofs.YtgjdpmpbldofpaaDoor.Wlk
