/- walk.Steps. -/
import Derived.Test.YtgjdpmpbldofpaaWlkStep
import Derived.Test.YtgjdpmpbldofpaaPkClone
namespace Go.Proofs.Ytgjdpmpbldofpaa.Wlk
open Go.RowKit Mem Pfx PR Oct

/-- How deep it goes. -/
def deepN (d : Int) : Nat := if d < 0 then 0 else if 8 < d then 8 else d.toNat
theorem deep_le (d : Int) : deepN d ≤ 8 := by unfold deepN; split <;> (try split) <;> omega
set_option maxHeartbeats 4000000 in
theorem steps_bad (p : Pf) (hok : p.a < 4294967296) (hg : good p = false) (d : Int) (w : World) : Calls Try.prog 16 #[.agg #[.int .u32 p.a, .int .i64 p.n], .int .i64 d] w fun e w' => e = .returned (.slice none 0 0) ∧ Below w.heap.size w w' := by
  have CG := Go.Lib.hid (fun W => good_any p.a p.n hok W)
  rw [show goodB p.a p.n = false from hg] at CG
  have HB := Go.Lib.hid (below_new w (.cells #[.int .u32 (p.a : Int), .int .i64 p.n] 35))
  clear hg hok
  go_enter Try.func16, Try.ntmps16
  go_wp2_with (go_at_call 26; refine (CG.out _).mono ?_; rintro e w1 ⟨rfl, hb1⟩; replace HB := Go.Lib.hid (Pfx.Below.tr HB.out hb1); clear hb1)
  go_ret
  exact ⟨rfl, HB.out⟩
set_option maxHeartbeats 4000000 in
theorem steps_good (p : Pf) (hp : G p) (d : Int) (w : World) : Calls Try.prog 16 #[.agg #[.int .u32 p.a, .int .i64 p.n], .int .i64 d] w (GivesP (stepsL (deepN d) p) w) := by
  have CG := Go.Lib.hid (fun W => good_any p.a p.n hp.2 W)
  rw [show goodB p.a p.n = true from hp.1] at CG
  have HB := Go.Lib.hid (below_new w (.cells #[.int .u32 (p.a : Int), .int .i64 p.n] 35))
  obtain ⟨c0, c1⟩ := cells_two w (.int .u32 (p.a : Int)) (.int .i64 p.n) 35
  have hdl := deep_le d
  have hpw : 2 ^ (deepN d + 1) ≤ 2 ^ 9 := pow_mono (by omega)
  have h9 : (2 : Nat) ^ 9 = 512 := by decide
  have CT := Go.Lib.hid (fun (W : World) => step_any (deepN d) p hp none 0 0 [] W.heap.size W (own_nil2 _ _) (Nat.le_refl _) (by omega))
  have HD := Go.Lib.hid (show (deepN d = 0 ∧ d < 0) ∨ (deepN d = 8 ∧ 8 < d) ∨ ((deepN d : Int) = d ∧ 0 ≤ d ∧ d ≤ 8) by unfold deepN; split <;> (try split) <;> omega)
  obtain ⟨k, hk⟩ : ∃ k, k = deepN d := ⟨_, rfl⟩
  rw [← hk] at CT HD ⊢
  generalize stepsL k p = S at CT ⊢
  obtain ⟨pa, pn⟩ := p
  dsimp only at c0 c1 CG CT HB ⊢
  clear hdl hpw h9 hk hp
  have hd := HD.out
  rcases hd with ⟨rfl, h⟩ | ⟨rfl, h⟩ | ⟨h, h1, h2⟩
  · have y0 : max d 0 = 0 := by omega
    rw [show ((0 : Nat) : Int) = 0 from rfl] at CT
    go_enter Try.func16, Try.ntmps16
    go_wp2_with (first
      | (go_at_call 26; refine (CG.out _).mono ?_; rintro e w1 ⟨rfl, hb1⟩; have B1 := Go.Lib.hid (Pfx.Below.tr HB.out hb1); have d0 := keeps hb1 c0; have d1 := keeps hb1 c1; clear hb1 c0 c1)
      | (go_at_call 27; have tok := B1.out; (with_reducible refine (CT.out _).mono ?_); rintro e w2 ⟨A2, c2, rfl, ho2, hg2, hat2⟩; have G2 := Go.Lib.hid (And.intro ho2 hg2); have B2 := Go.Lib.hid hat2; clear ho2 hg2 hat2 tok))
    go_ret
    have e0 : 0 + S.length = S.length := Nat.zero_add _
    refine ⟨A2, c2, by rw [← e0]; rfl, ?_, ?_⟩
    · have h := G2.out.1
      rw [e0, List.nil_append] at h
      exact own_base h B1.out.size
    · exact B1.out.trans (Below.mono ⟨G2.out.2.os, G2.out.2.tape, G2.out.2.output, G2.out.2.size, fun k hk => G2.out.2.block k hk (by intro e; cases e)⟩ B1.out.size)
  · have y0 : max d 0 = d := by omega
    have y1 : min d 8 = 8 := by omega
    rw [show ((8 : Nat) : Int) = 8 from rfl] at CT
    go_enter Try.func16, Try.ntmps16
    go_wp2_with (first
      | (go_at_call 26; refine (CG.out _).mono ?_; rintro e w1 ⟨rfl, hb1⟩; have B1 := Go.Lib.hid (Pfx.Below.tr HB.out hb1); have d0 := keeps hb1 c0; have d1 := keeps hb1 c1; clear hb1 c0 c1)
      | (go_at_call 27; have tok := B1.out; (with_reducible refine (CT.out _).mono ?_); rintro e w2 ⟨A2, c2, rfl, ho2, hg2, hat2⟩; have G2 := Go.Lib.hid (And.intro ho2 hg2); have B2 := Go.Lib.hid hat2; clear ho2 hg2 hat2 tok))
    go_ret
    have e0 : 0 + S.length = S.length := Nat.zero_add _
    refine ⟨A2, c2, by rw [← e0]; rfl, ?_, ?_⟩
    · have h := G2.out.1
      rw [e0, List.nil_append] at h
      exact own_base h B1.out.size
    · exact B1.out.trans (Below.mono ⟨G2.out.2.os, G2.out.2.tape, G2.out.2.output, G2.out.2.size, fun k hk => G2.out.2.block k hk (by intro e; cases e)⟩ B1.out.size)
  · have y0 : max d 0 = d := by omega
    have y1 : min d 8 = d := by omega
    rw [h] at CT
    go_enter Try.func16, Try.ntmps16
    go_wp2_with (first
      | (go_at_call 26; refine (CG.out _).mono ?_; rintro e w1 ⟨rfl, hb1⟩; have B1 := Go.Lib.hid (Pfx.Below.tr HB.out hb1); have d0 := keeps hb1 c0; have d1 := keeps hb1 c1; clear hb1 c0 c1)
      | (go_at_call 27; have tok := B1.out; (with_reducible refine (CT.out _).mono ?_); rintro e w2 ⟨A2, c2, rfl, ho2, hg2, hat2⟩; have G2 := Go.Lib.hid (And.intro ho2 hg2); have B2 := Go.Lib.hid hat2; clear ho2 hg2 hat2 tok))
    go_ret
    have e0 : 0 + S.length = S.length := Nat.zero_add _
    refine ⟨A2, c2, by rw [← e0]; rfl, ?_, ?_⟩
    · have h := G2.out.1
      rw [e0, List.nil_append] at h
      exact own_base h B1.out.size
    · exact B1.out.trans (Below.mono ⟨G2.out.2.os, G2.out.2.tape, G2.out.2.output, G2.out.2.size, fun k hk => G2.out.2.block k hk (by intro e; cases e)⟩ B1.out.size)
end Go.Proofs.Ytgjdpmpbldofpaa.Wlk
