/- The reference's Ends: a prefix's first and last address. -/
import Derived.Test.YtgjdpmpbldofpaaDoorWlkMem
namespace Go.Proofs.YtgjdpmpbldofpaaDoor.Wlk
open Go.RowKit Mem Pfx PR Oct

def tV (p : Pt) : Value := .agg #[.int .i64 p.A, .int .i64 p.B]
set_option maxHeartbeats 2000000 in
theorem rends_any (p : Pf) (hp : G p) (w : World) : Calls Tryd.prog 18 #[.agg #[.int .u32 p.a, .int .i64 p.n]] w (Tells (tV (endsT p)) w) := by
  have hn := hp.len
  have ht := hp.top
  have ha := hp.2
  have hsz := sz_pos p
  obtain ⟨k, hk⟩ : ∃ k : Nat, p.n = (k : Int) := ⟨p.n.toNat, by omega⟩
  have hk32 : k ≤ 32 := by omega
  have hs : sz p = 2 ^ (32 - k) := by unfold sz ex; rw [hk]; rfl
  unfold tV endsT
  obtain ⟨pa, pn⟩ := p
  dsimp only at hk ha ht ⊢
  subst hk
  obtain ⟨c0, c1⟩ := cells_two w (.int .u32 (pa : Int)) (.int .i64 (k : Int)) 24
  have hb := (below_new2 w (.cells #[.int .u32 (pa : Int), .int .i64 (k : Int)] 24) (.cells #[.int .i64 0, .int .i64 0] 42))
  have HB := Go.Lib.hid hb
  have HS := Go.Lib.hid hs
  generalize sz ⟨pa, (k : Int)⟩ = s at HS ht hsz ⊢
  clear hb hs hn hp
  go_enter Tryd.func18, Tryd.ntmps18
  go_wp2
  go_loopw [3, 4] (fun v3 v4 wx => ∃ i m : Nat, k ≤ i ∧ i ≤ 32 ∧ m ≤ 4294967296 ∧ v4 = .int .i64 i ∧ v3 = .int .i64 m ∧ Hid (m = 2 ^ (i - k)) ∧ wx = (w.alloc (.cells #[.int .u32 (pa : Int), .int .i64 (k : Int)] 24)).alloc (.cells #[.int .i64 0, .int .i64 0] 42)) (fun _ v4 _ => 32 - (intOf v4).toNat)
  case atStart => exact ⟨k, 1, Nat.le_refl _, hk32, by omega, rfl, rfl, Go.Lib.hid (by simp), rfl⟩
  case round =>
    obtain ⟨i, m, hki, hi, hm, rfl, rfl, hme, rfl⟩ := hrel
    by_cases hlt : i < 32
    · have z1 : (i : Int) < 32 := by omega
      have z2 : (m : Int) ≤ 4294967296 := by omega
      have z3 : m ≤ 2147483648 := by
        have h1 := hme.out
        have h2 := pow_mono (show i - k ≤ 31 by omega)
        have : (2 : Nat) ^ 31 = 2147483648 := by decide
        omega
      go_wp2
      go_roundw
      case rel => exact ⟨i + 1, 2 * m, by omega, by omega, by omega, by go_num, by go_num, Go.Lib.hid (by rw [show i + 1 - k = (i - k) + 1 by omega, Nat.pow_succ, ← hme.out]; omega), trivial⟩
      case measure => simp [intOf]; omega
    · have z1 : decide ((i : Int) < 32) = false := decide_eq_false (by omega)
      have hm2 : m = s := by
        have h1 := hme.out
        have h2 := HS.out
        rw [h1, h2]
        congr 1
        omega
      have z2 : (s : Int) ≤ 4294967296 := by omega
      have z3 : (pa : Int) < 4294967296 := by omega
      subst hm2
      go_wp2
      refine bodyPost_ret (v := .agg #[.int .i64 pa, .int .i64 ((pa : Int) + (m : Int) - 1)]) (by simp [results, Tryd.results18, go_sem]) rfl ⟨?_, ?_⟩
      · have e : ((pa + m - 1 : Nat) : Int) = (pa : Int) + (m : Int) - 1 := by omega
        rw [e]
      · exact below_new2 w _ _
end Go.Proofs.YtgjdpmpbldofpaaDoor.Wlk
