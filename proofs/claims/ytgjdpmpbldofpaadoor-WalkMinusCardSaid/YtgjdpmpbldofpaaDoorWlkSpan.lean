/- walk.Span: how many addresses there are. -/
import Derived.Test.YtgjdpmpbldofpaaDoorWlkTops
import Derived.Test.YtgjdpmpbldofpaaDoorWlkMany
namespace Go.Proofs.YtgjdpmpbldofpaaDoor.Wlk
open Go.RowKit Mem Pfx PR Oct

theorem span_take {l : List Pf} {j : Nat} {p : Pf} (h : l[j]? = some p) : spanL (l.take (j + 1)) = spanL (l.take j) + sz p := by
  rw [List.take_add_one, h]
  exact sum_split _ _
theorem span_le_all (l : List Pf) (j : Nat) : spanL (l.take j) ≤ spanL l := by
  have : spanL l = spanL (l.take j) + spanL (l.drop j) := by
    unfold spanL
    rw [← List.sum_append, ← List.map_append, List.take_append_drop]
  omega
set_option maxHeartbeats 2000000 in
theorem span_any (v : Value) (l : List Pf) (w : World) (hv : Pfxs w v l) (hl : l.length ≤ 100000) : Calls Tryd.prog 13 #[v] w (Tells (.int .i64 (spanL (topsL (sortP l)))) w) := by
  have CS := Go.Lib.hid (tops_any v l w hv hl)
  obtain ⟨s1, s2, s3⟩ := sort_is hv.2
  obtain ⟨t1, t2, t3, t4, t5⟩ := tops_is s1 s3
  have HR := Go.Lib.hid t1
  have HSP := Go.Lib.hid (spanL_le t1)
  have hle := sort_le l
  have hS : (topsL (sortP l)).length ≤ 100000 := by omega
  generalize topsL (sortP l) = S at CS HR hS HSP ⊢
  clear hv s1 s2 s3 hle hl t1 t2 t3 t4 t5
  go_enter Tryd.func13, Tryd.ntmps13
  go_wp2_with (go_at_call 25; refine CS.out.mono ?_; rintro e w1 ⟨A, c, rfl, ho, hb⟩; have B1 := Go.Lib.hid hb; have SV := Go.Lib.hid (Pfxs.of_own ho (oks_G HR.out.good)); clear ho hb)
  go_loopw [3, 9] (fun v3 v9 wx => ∃ (j m : Nat), j ≤ S.length ∧ v9 = .int .i64 j ∧ v3 = .int .i64 m ∧ Hid (m = spanL (S.take j)) ∧ Hid (Below w1.heap.size w1 wx)) (fun _ v9 _ => S.length - (intOf v9).toNat)
  case atStart => exact ⟨0, 0, Nat.zero_le _, rfl, rfl, Go.Lib.hid rfl, Go.Lib.hid (Below.refl _ _)⟩
  case round =>
    obtain ⟨j, m, hj, rfl, rfl, hm, hb⟩ := hrel
    by_cases hlt : j < S.length
    · obtain ⟨p, hp⟩ : ∃ p, S[j]? = some p := ⟨_, List.getElem?_eq_getElem hlt⟩
      have gp := HR.out.good p (List.mem_of_getElem? hp)
      obtain ⟨b, off, rfl, hbl, k0, k1⟩ := (SV.out).at_ hp
      have c0 := (hb.out.cell (p := ⟨b, off + j * 2, none⟩) hbl).trans k0
      have c1 := (hb.out.cell (p := ⟨b, off + j * 2 + 1, none⟩) hbl).trans k1
      have z0 : (0 : Int) ≤ (j : Int) := by omega
      have z1 : (j : Int) < (S.length : Int) := by omega
      have hs := span_take hp
      have hsl := span_le_all S (j + 1)
      have HT := Go.Lib.hid hs
      have hgn := gp.n
      have hex := gp.ex_le
      have hszp : sz p = 2 ^ ex p := rfl
      have y0 : IntKind.i64.wrap (32 - p.n) = (ex p : Int) := by rw [IntKind.wrap_i64]; omega
      have y1 : (0 : Int) ≤ (ex p : Int) := by omega
      have hpw := pow_le (ex p) hex
      have hps := pow_pos (ex p)
      have y2 : IntKind.i64.wrap ((m : Int) + ((2 ^ ex p : Nat) : Int)) = ((m + 2 ^ ex p : Nat) : Int) := by
        have := hm.out
        have := HSP.out
        rw [IntKind.wrap_i64]
        omega
      obtain ⟨pa, pn⟩ := p
      obtain ⟨d0, d1⟩ := cells_two wr (.int .u32 (pa : Int)) (.int .i64 pn) 24
      generalize hee : ex ⟨pa, pn⟩ = e at *
      dsimp only at y0 c0 c1
      clear k0 k1 hbl hp hs hsl hgn gp hszp
      go_wp2
      go_roundw
      case rel =>
        refine ⟨j + 1, m + 2 ^ e, hlt, by go_num, ?_, Go.Lib.hid ?_, Go.Lib.hid ((hb.out).alloc hb.out.size _)⟩
        · have ew : wrap64 ((2 : Int) ^ e) = ((2 ^ e : Nat) : Int) := by
            have : ((2 : Int) ^ e) = ((2 ^ e : Nat) : Int) := by push_cast; rfl
            rw [this]
            unfold wrap64
            omega
          rw [ew]
          refine congrArg _ ?_
          have := hm.out
          have := HSP.out
          have h3 := Nat.le_trans (Nat.le_of_eq hm.out) (span_le_all S j)
          unfold wrap64
          omega
        · have h := HT.out
          rw [h, hm.out]
          unfold sz
          rw [hee]
      case measure => simp [intOf]; omega
    · have z1 : decide ((j : Int) < (S.length : Int)) = false := decide_eq_false (by omega)
      have HJ := Go.Lib.hid (show S.take j = S from List.take_of_length_le (by omega))
      rw [HJ.out] at hm
      go_wp2
      go_ret
      exact ⟨by rw [← hm.out]; rfl, B1.out.trans (hb.out.mono B1.out.size)⟩
end Go.Proofs.YtgjdpmpbldofpaaDoor.Wlk
