/- NlriWrites: the law's walk, over what the program's Encode, Size and Decode give. -/
import Derived.Test.YtaemhgmekggliaaNlriRound
import Derived.Test.YtaemhgmekggliaaNlriReadsWalk
import Derived.Test.YtaemhgmekggliaaCodeKit
import Derived.Test.YtaemhgmekggliaaNlriLives
namespace Go.Proofs.Ytaemhgmekggliaa.PR
open Go.RowKit Mem Pfx Oct

attribute [local go_sem ↓] Go.wp_at_zero Go.wp_at_succ
set_option maxRecDepth 100000 in
set_option maxHeartbeats 8000000 in
theorem writes_of (v : Value) (l0 : List Pf) (w : World) (hv : Pfxs w v l0)
    (CE : ∀ (v : Value) (l : List Pf) (W : World), Pfxs W v l → l.length ≤ 40 → Calls Try.prog 7 #[v] W (EncP l W))
    (CZ : ∀ (p : Pf) (W : World), p.a < 4294967296 → Calls Try.prog 8 #[pV p] W (Tells (.int .i64 (sizeN p)) W))
    (CD : ∀ (v : Value) (b : List Nat) (W : World), U8s W v b → b.length ≤ 200 → Calls Try.prog 12 #[v] W (DecP b W))
    (CL : ∀ W, Calls Try.prog 11 #[] W (Tells (.bool true) W)) :
    Calls Try.prog 3 #[v] w (Tells (.bool true) w) := by
  have hos : Oks (l0.take 40) := hv.2.take 40
  have hl2 : (l0.take 40).length ≤ 40 := by rw [List.length_take]; omega
  have C1 := Go.Lib.hid (show Calls Try.prog 6 #[v, .int .i64 40] w (GivesP (l0.take 40) w) from few_any v l0 40 w hv (by decide))
  obtain ⟨l, hl⟩ : ∃ l, l = l0.take 40 := ⟨_, rfl⟩
  rw [← hl] at hos hl2 C1
  have C2 := Go.Lib.hid (fun (v : Value) (W : World) (h : Pfxs W v l) => show Calls Try.prog 6 #[v, .int .i64 40] W (GivesP l W) from by
    have h3 := few_any v l 40 W h (by decide)
    rw [List.take_of_length_le hl2] at h3
    exact h3)
  have HOS := Go.Lib.hid hos
  have HL2 := Go.Lib.hid hl2
  have CS := Go.Lib.hid refSize_any
  have CZH := Go.Lib.hid CZ
  have CLH := Go.Lib.hid CL
  have CDH := Go.Lib.hid CD
  have CG := Go.Lib.hid (fun v W h => refGoods_any v l W h)
  have C7 := Go.Lib.hid same_yes
  have CEH := Go.Lib.hid CE
  clear hl hv hos CE CZ CD CL
  cases hg : l.all good with
  | false =>
    have C4 := Go.Lib.hid (fun v W h => show Calls Try.prog 7 #[v] W (fun e w' => ∃ A c, e = .returned (.tuple #[.slice A 0 c, .int .i64 1]) ∧ Below W.heap.size W w') from (CEH.out v l W h HL2.out).mono fun e w' hh => by
      rcases hh with ⟨_, hh⟩ | ⟨h1, _⟩
      · exact ⟨none, 0, hh⟩
      · rw [hg] at h1; cases h1)
    rw [hg] at CG
    clear hg CEH CDH C7
    go_enter Try.func3, Try.ntmps3
    go_wp2_with (first
      | (go_at_call 6; have h := O1.out; refine (C2.out _ _ (Pfxs.of_own h HOS.out)).mono ?_; rintro e w2 ⟨A2, c2, rfl, ho, hb⟩; have O2 := Go.Lib.hid ho; have B2 := Go.Lib.hid (B1.out.trans (hb.mono B1.out.size)); have K2 := Go.Lib.hid ((Pfxs.of_own h HOS.out).keep hb); clear ho hb h O1)
      | (go_at_call 6; refine C1.out.mono ?_; rintro e w1 ⟨A1, c1, rfl, ho, hb⟩; have O1 := Go.Lib.hid ho; have B1 := Go.Lib.hid hb; clear ho hb)
      | (go_at_call 7; have h := O2.out; refine (C4.out _ _ (Pfxs.of_own h HOS.out)).mono ?_; rintro e w3 ⟨A3, c3, rfl, hb⟩; have B3 := Go.Lib.hid (B2.out.trans (hb.mono B2.out.size)); have K3 := Go.Lib.hid (K2.out.keep hb); clear hb h O2))
    go_loopw [5] (fun v5 wx => ∃ j : Nat, j ≤ l.length ∧ v5 = .int .i64 j ∧ Hid (Below w3.heap.size w3 wx)) (fun v5 _ => l.length - (intOf v5).toNat)
    case atStart => exact ⟨0, Nat.zero_le _, rfl, Go.Lib.hid (Below.refl _ _)⟩
    case round =>
    obtain ⟨j, hj, rfl, HBX⟩ := hrel
    have BW := Go.Lib.hid (B3.out.trans (HBX.out.mono B3.out.size))
    have KW := Go.Lib.hid (K3.out.keep HBX.out)
    have z0 : (0 : Int) ≤ (j : Int) := by omega
    by_cases hlt : j < l.length
    · obtain ⟨p, hp⟩ : ∃ p, l[j]? = some p := ⟨_, List.getElem?_eq_getElem hlt⟩
      obtain ⟨b, off, rfl, hbl, k0, k1⟩ := (KW.out).at_ hp
      have hpa := ((KW.out).2 p (List.mem_of_getElem? hp)).1
      have CP := Go.Lib.hid (fun W => CZH.out p W hpa)
      have CR := Go.Lib.hid (fun W => CS.out p W hpa)
      have z1 : (j : Int) < (l.length : Int) := by omega
      have HS := Go.Lib.hid (fun (W : World) (h : Below wr.heap.size wr W) => (⟨(h.cell (p := ⟨b, off + j * 2, none⟩) hbl).trans k0, (h.cell (p := ⟨b, off + j * 2 + 1, none⟩) hbl).trans k1⟩ : W.cell? ⟨b, off + j * 2, none⟩ = some (.int .u32 p.a) ∧ W.cell? ⟨b, off + j * 2 + 1, none⟩ = some (.int .i64 p.n)))
      have D0 := Go.Lib.hid (show Below wr.heap.size wr wr.drew from (Below.refl _ wr).drew)
      have hS0 := HS.out _ D0.out
      clear hp hbl k0 k1 hpa
      unfold pV at CP CR
      generalize sizeN p = z at CP CR
      go_wp2
      go_region_held3 (fun w' => w'.cell? ⟨b, off + j * 2, none⟩ = some (.int .u32 p.a) ∧ w'.cell? ⟨b, off + j * 2 + 1, none⟩ = some (.int .i64 p.n)) (assumption) (first
        | (go_at_call 8; refine (CP.out _).mono ?_; rintro e x1 ⟨rfl, hb⟩; have D1 := Go.Lib.hid (D0.out.trans (hb.mono D0.out.size)); have hS1 := HS.out _ D1.out; clear hb hS0)
        | (go_at_call 9; refine (CR.out _).mono ?_; rintro e x2 ⟨rfl, hb⟩; have D2 := Go.Lib.hid (D1.out.trans (hb.mono D1.out.size)); have hS2 := HS.out _ D2.out; clear hb hS1))
      go_wp2
      go_roundw
      case rel => exact ⟨j + 1, hlt, by go_num, Go.Lib.hid (HBX.out.trans (D2.out.mono HBX.out.size))⟩
      case measure => simp [intOf]; omega
    · have z1 : decide ((j : Int) < (l.length : Int)) = false := decide_eq_false (by omega)
      go_wp2_with (first
        | (go_at_call 10; have h := KW.out; refine (CG.out _ _ h).mono ?_; rintro e w5 ⟨rfl, hb⟩; have B5 := Go.Lib.hid (BW.out.trans (hb.mono BW.out.size)); clear hb h)
        | (go_at_call 11; refine (CLH.out _).mono ?_; rintro e w6 ⟨rfl, hb⟩; have B6 := Go.Lib.hid (B5.out.trans (hb.mono B5.out.size)); clear hb))
      go_ret
      exact ⟨rfl, B6.out⟩
  | true =>
    have hgl := encs_len hg
    have hrt := dec_encs hg HOS.out
    have C4 := Go.Lib.hid (fun v W h => show Calls Try.prog 7 #[v] W (fun e w' => ∃ A c, e = .returned (.tuple #[.slice A (encs l).length c, .int .i64 0]) ∧ U8s w' (.slice A (encs l).length c) (encs l) ∧ Below W.heap.size W w') from (CEH.out v l W h HL2.out).mono fun e w' hh => by
      rcases hh with ⟨h1, _⟩ | ⟨_, A, c, h1, h2, h3⟩
      · rw [hg] at h1; cases h1
      · exact ⟨A, c, h1, U8s.of_own h2 (encs_small hg), h3⟩)
    have CEN := Go.Lib.hid (fun v W h => (refEncode_any v l W h hg (by omega)).mono fun e w' (hh : Gives8 _ _ _ _) => show ∃ A c, e = .returned (.slice A (encs l).length c) ∧ U8s w' (.slice A (encs l).length c) (encs l) ∧ Below W.heap.size W w' from by
      obtain ⟨A, c, h1, h2, h3⟩ := hh
      exact ⟨A, c, h1, U8s.of_own h2 (encs_small hg), h3⟩)
    have C6 := Go.Lib.hid (fun v W h => show Calls Try.prog 12 #[v] W (fun e w' => ∃ A c, e = .returned (.tuple #[.slice A l.length c, .int .i64 0]) ∧ Pfxs w' (.slice A l.length c) l ∧ Below W.heap.size W w') from (CDH.out v (encs l) W h (by omega)).mono fun e w' hh => by
      rcases hh with ⟨h1, _⟩ | ⟨L', A, c, h1, h2, h3, h4⟩
      · rw [hrt] at h1; cases h1
      · rw [hrt] at h1
        injection h1 with h1
        subst h1
        exact ⟨A, c, h2, h3, h4⟩)
    rw [hg] at CG
    obtain ⟨E, hE⟩ : ∃ E, E = encs l := ⟨_, rfl⟩
    rw [← hE] at C4 CEN C6
    clear hg CEH CDH hgl hrt hE
    go_enter Try.func3, Try.ntmps3
    go_wp2_with (first
      | (go_at_call 6; have h := O1.out; refine (C2.out _ _ (Pfxs.of_own h HOS.out)).mono ?_; rintro e w2 ⟨A2, c2, rfl, ho, hb⟩; have O2 := Go.Lib.hid ho; have B2 := Go.Lib.hid (B1.out.trans (hb.mono B1.out.size)); have K2 := Go.Lib.hid ((Pfxs.of_own h HOS.out).keep hb); clear ho hb h O1)
      | (go_at_call 6; refine C1.out.mono ?_; rintro e w1 ⟨A1, c1, rfl, ho, hb⟩; have O1 := Go.Lib.hid ho; have B1 := Go.Lib.hid hb; clear ho hb)
      | (go_at_call 7; have h := O2.out; refine (C4.out _ _ (Pfxs.of_own h HOS.out)).mono ?_; rintro e w3 ⟨A3, c3, rfl, hu, hb⟩; have B3 := Go.Lib.hid (B2.out.trans (hb.mono B2.out.size)); have K3 := Go.Lib.hid (K2.out.keep hb); have U3 := Go.Lib.hid hu; clear hu hb h O2))
    go_loopw [5] (fun v5 wx => ∃ j : Nat, j ≤ l.length ∧ v5 = .int .i64 j ∧ Hid (Below w3.heap.size w3 wx)) (fun v5 _ => l.length - (intOf v5).toNat)
    case atStart => exact ⟨0, Nat.zero_le _, rfl, Go.Lib.hid (Below.refl _ _)⟩
    case round =>
    obtain ⟨j, hj, rfl, HBX⟩ := hrel
    have BW := Go.Lib.hid (B3.out.trans (HBX.out.mono B3.out.size))
    have KW := Go.Lib.hid (K3.out.keep HBX.out)
    have z0 : (0 : Int) ≤ (j : Int) := by omega
    by_cases hlt : j < l.length
    · obtain ⟨p, hp⟩ : ∃ p, l[j]? = some p := ⟨_, List.getElem?_eq_getElem hlt⟩
      obtain ⟨b, off, rfl, hbl, k0, k1⟩ := (KW.out).at_ hp
      have hpa := ((KW.out).2 p (List.mem_of_getElem? hp)).1
      have CP := Go.Lib.hid (fun W => CZH.out p W hpa)
      have CR := Go.Lib.hid (fun W => CS.out p W hpa)
      have z1 : (j : Int) < (l.length : Int) := by omega
      have HS := Go.Lib.hid (fun (W : World) (h : Below wr.heap.size wr W) => (⟨(h.cell (p := ⟨b, off + j * 2, none⟩) hbl).trans k0, (h.cell (p := ⟨b, off + j * 2 + 1, none⟩) hbl).trans k1⟩ : W.cell? ⟨b, off + j * 2, none⟩ = some (.int .u32 p.a) ∧ W.cell? ⟨b, off + j * 2 + 1, none⟩ = some (.int .i64 p.n)))
      have D0 := Go.Lib.hid (show Below wr.heap.size wr wr.drew from (Below.refl _ wr).drew)
      have hS0 := HS.out _ D0.out
      clear hp hbl k0 k1 hpa
      unfold pV at CP CR
      generalize sizeN p = z at CP CR
      go_wp2
      go_region_held3 (fun w' => w'.cell? ⟨b, off + j * 2, none⟩ = some (.int .u32 p.a) ∧ w'.cell? ⟨b, off + j * 2 + 1, none⟩ = some (.int .i64 p.n)) (assumption) (first
        | (go_at_call 8; refine (CP.out _).mono ?_; rintro e x1 ⟨rfl, hb⟩; have D1 := Go.Lib.hid (D0.out.trans (hb.mono D0.out.size)); have hS1 := HS.out _ D1.out; clear hb hS0)
        | (go_at_call 9; refine (CR.out _).mono ?_; rintro e x2 ⟨rfl, hb⟩; have D2 := Go.Lib.hid (D1.out.trans (hb.mono D1.out.size)); have hS2 := HS.out _ D2.out; clear hb hS1))
      go_wp2
      go_roundw
      case rel => exact ⟨j + 1, hlt, by go_num, Go.Lib.hid (HBX.out.trans (D2.out.mono HBX.out.size))⟩
      case measure => simp [intOf]; omega
    · have z1 : decide ((j : Int) < (l.length : Int)) = false := decide_eq_false (by omega)
      have UW := Go.Lib.hid (U3.out.keep HBX.out)
      go_wp2_with (first
        | (go_at_call 10; have h := KW.out; refine (CG.out _ _ h).mono ?_; rintro e w5 ⟨rfl, hb⟩; have B5 := Go.Lib.hid (BW.out.trans (hb.mono BW.out.size)); have K5 := Go.Lib.hid (KW.out.keep hb); have U5 := Go.Lib.hid (UW.out.keep hb); clear hb h)
        | (go_at_call 13; have h := K5.out; refine (CEN.out _ _ h).mono ?_; rintro e w6 ⟨A6, c6, rfl, hu, hb⟩; have B6 := Go.Lib.hid (B5.out.trans (hb.mono B5.out.size)); have K6 := Go.Lib.hid (K5.out.keep hb); have U6 := Go.Lib.hid (U5.out.keep hb); have V6 := Go.Lib.hid hu; clear hu hb h)
        | (go_at_call 12; have h := V6.out; refine (C6.out _ _ h).mono ?_; rintro e w7 ⟨A7, c7, rfl, hp, hb⟩; have B7 := Go.Lib.hid (B6.out.trans (hb.mono B6.out.size)); have K7 := Go.Lib.hid (K6.out.keep hb); have U7 := Go.Lib.hid (U6.out.keep hb); have P7 := Go.Lib.hid hp; clear hp hb h))
      have D := Go.Lib.hid (show Below w7.heap.size w7 w7.drew from (Below.refl _ w7).drew)
      have B8 := Go.Lib.hid (B7.out.trans (D.out.mono B7.out.size))
      have K8 := Go.Lib.hid (K7.out.keep D.out)
      have U8 := Go.Lib.hid (U7.out.keep D.out)
      have P8 := Go.Lib.hid (P7.out.keep D.out)
      have t8 := text8 U8.out
      clear B7 K7 U7 P7 D V6 K6 U6
      refine wp_region_noPanic ?_
      refine wp_region_held_drew (S := fun w' => (convert 24 9 (.slice A3 E.length c3)).run Try.prog w' = .ok (.string (txt E)) w') (by kernel_rfl) (by assumption) (fun hHeld => ?_)
      refine wpAnyH_take (i := 0) (oi := { dst := some 52, op := Op.move (Operand.tmp 4), type := 25, pos := "law.go:38", after := #[], guard := none }) (v := ?_) rfl (by kernel_rfl) (by kernel_rfl) (by kernel_rfl) (fun _ _ _ h => h) (Or.inl ⟨by rfl, ?_⟩) hHeld ?_
      rotate_left
      · (intro w hSw; (try dsimp only at hSw); go_simp)
        try with_reducible rfl
      try simp only [Act.put, List.setIfInBounds_toArray, List.set_cons_zero, List.set_cons_succ]
      refine wpAnyH_take (i := 1) (oi := { dst := some 53, op := Op.binOp BinOp.eql 25 (Operand.tmp 52) (Operand.const (Value.int IntKind.i64 0)) 25, type := 4, pos := "law.go:38", after := #[{ on := 0, ground := Ground.data }], guard := none }) (v := ?_) rfl (by kernel_rfl) (by kernel_rfl) (by kernel_rfl) (fun _ _ _ h => h) (Or.inl ⟨by rfl, ?_⟩) hHeld ?_
      rotate_left
      · (intro w hSw; (try dsimp only at hSw); go_simp)
        try with_reducible rfl
      try simp only [Act.put, List.setIfInBounds_toArray, List.set_cons_zero, List.set_cons_succ]
      refine wpAnyH_take (i := 2) (oi := { dst := some 54, op := Op.move (Operand.tmp 53), type := 4, pos := "law.go:38", after := #[{ on := 1, ground := Ground.data }], guard := none }) (v := ?_) rfl (by kernel_rfl) (by kernel_rfl) (by kernel_rfl) (fun _ _ _ h => h) (Or.inl ⟨by rfl, ?_⟩) hHeld ?_
      rotate_left
      · (intro w hSw; (try dsimp only at hSw); go_simp)
        try with_reducible rfl
      try simp only [Act.put, List.setIfInBounds_toArray, List.set_cons_zero, List.set_cons_succ]
      refine wpAnyH_take (i := 3) (oi := { dst := some 55, op := Op.move (Operand.tmp 3), type := 24, pos := "law.go:38", after := #[{ on := 2, ground := Ground.guard }], guard := some (2, true) }) (v := ?_) rfl (by kernel_rfl) (by kernel_rfl) (by kernel_rfl) (fun _ _ _ h => h) (Or.inl ⟨by rfl, ?_⟩) hHeld ?_
      rotate_left
      · (intro w hSw; (try dsimp only at hSw); go_simp)
        try with_reducible rfl
      try simp only [Act.put, List.setIfInBounds_toArray, List.set_cons_zero, List.set_cons_succ]
      refine wpAnyH_take (i := 4) (oi := { dst := some 56, op := Op.convert 24 9 (Operand.tmp 55), type := 9, pos := "law.go:38", after := #[{ on := 3, ground := Ground.data }, { on := 2, ground := Ground.guard }], guard := some (2, true) }) (v := ?_) rfl (by kernel_rfl) (by kernel_rfl) (by kernel_rfl) (fun _ _ _ h => h) (Or.inl ⟨by rfl, ?_⟩) hHeld ?_
      rotate_left
      · (intro w hSw; (try dsimp only at hSw); go_simp)
        try with_reducible rfl
      try simp only [Act.put, List.setIfInBounds_toArray, List.set_cons_zero, List.set_cons_succ]
      refine wpAnyH_take (i := 5) (oi := { dst := some 57, op := Op.move (Operand.tmp 0), type := 22, pos := "law.go:38", after := #[{ on := 2, ground := Ground.guard }], guard := some (2, true) }) (v := ?_) rfl (by kernel_rfl) (by kernel_rfl) (by kernel_rfl) (fun _ _ _ h => h) (Or.inl ⟨by rfl, ?_⟩) hHeld ?_
      rotate_left
      · (intro w hSw; (try dsimp only at hSw); go_simp)
        try with_reducible rfl
      try simp only [Act.put, List.setIfInBounds_toArray, List.set_cons_zero, List.set_cons_succ]
      refine wpAnyH_ready (rs := [6]) (by kernel_rfl) (by simp) ?_
      refine AllReadyH.cons (o := { dst := some 58, op := Op.call { callee := Callee.value (Operand.func 13), args := #[Operand.tmp 57], argTypes := #[22] }, type := 24, pos := "law.go:38", after := #[{ on := 5, ground := Ground.data }, { on := 2, ground := Ground.chain }, { on := 2, ground := Ground.guard }], guard := some (2, true) }) rfl (fun K hK => ?_) AllReadyH.nil
      go_simp
      go_at_call 13; have h := K8.out; refine (CEN.out _ _ h).mono ?_; rintro e w9 ⟨A9, c9, rfl, hu, hb⟩; have B9 := Go.Lib.hid (B8.out.trans (hb.mono B8.out.size)); have K9 := Go.Lib.hid (K8.out.keep hb); have U9 := Go.Lib.hid (U8.out.keep hb); have t9 := text8 U9.out; have s9 := text8 hu; have P9 := Go.Lib.hid (P8.out.keep hb); clear hu hb h K8 P8
      (try go_wp2_with fail)
      refine hK.out _ _ (by assumption) (fun hHeld1 => ?_)
      clear hK K
      try simp only [Act.put, List.setIfInBounds_toArray, List.set_cons_zero, List.set_cons_succ]
      refine wpAnyH_ready (rs := [7]) (by kernel_rfl) (by simp) ?_
      refine AllReadyH.cons (o := { dst := some 59, op := Op.convert 24 9 (Operand.tmp 58), type := 9, pos := "law.go:38", after := #[{ on := 6, ground := Ground.data }, { on := 2, ground := Ground.guard }], guard := some (2, true) }) rfl (fun K hK => ?_) AllReadyH.nil
      go_simp
      refine hK.out _ _ (by assumption) (fun hHeld2 => ?_)
      clear hK K
      try simp only [Act.put, List.setIfInBounds_toArray, List.set_cons_zero, List.set_cons_succ]
      refine wpAnyH_take (i := 8) (oi := { dst := some 60, op := Op.binOp BinOp.eql 9 (Operand.tmp 56) (Operand.tmp 59) 9, type := 4, pos := "law.go:38", after := #[{ on := 4, ground := Ground.data }, { on := 7, ground := Ground.data }, { on := 2, ground := Ground.guard }], guard := some (2, true) }) (v := ?_) rfl (by kernel_rfl) (by kernel_rfl) (by kernel_rfl) (fun _ _ _ h => h) (Or.inl ⟨by rfl, ?_⟩) hHeld2 ?_
      rotate_left
      · (intro w hSw; (try dsimp only at hSw); go_simp)
        try with_reducible rfl
      try simp only [Act.put, List.setIfInBounds_toArray, List.set_cons_zero, List.set_cons_succ]
      refine wpAnyH_take (i := 9) (oi := { dst := some 61, op := Op.pick (Operand.tmp 54) (Operand.tmp 60) (Operand.const (Value.bool false)), type := 4, pos := "law.go:38", after := #[{ on := 2, ground := Ground.data }, { on := 8, ground := Ground.data }], guard := none }) (v := ?_) rfl (by kernel_rfl) (by kernel_rfl) (by kernel_rfl) (fun _ _ _ h => h) (Or.inl ⟨by rfl, ?_⟩) hHeld2 ?_
      rotate_left
      · (intro w hSw; (try dsimp only at hSw); go_simp)
        try with_reducible rfl
      try simp only [Act.put, List.setIfInBounds_toArray, List.set_cons_zero, List.set_cons_succ]
      refine wpAnyH_take (i := 10) (oi := { dst := some 62, op := Op.move (Operand.tmp 61), type := 4, pos := "law.go:38", after := #[{ on := 9, ground := Ground.data }, { on := 6, ground := Ground.chain }], guard := none }) (v := ?_) rfl (by kernel_rfl) (by kernel_rfl) (by kernel_rfl) (fun _ _ _ h => h) (Or.inl ⟨by rfl, ?_⟩) hHeld2 ?_
      rotate_left
      · (intro w hSw; (try dsimp only at hSw); go_simp)
        try with_reducible rfl
      try simp only [Act.put, List.setIfInBounds_toArray, List.set_cons_zero, List.set_cons_succ]
      refine wpAnyH_take (i := 11) (oi := { dst := some 63, op := Op.move (Operand.tmp 7), type := 25, pos := "law.go:38", after := #[{ on := 10, ground := Ground.guard }], guard := some (10, true) }) (v := ?_) rfl (by kernel_rfl) (by kernel_rfl) (by kernel_rfl) (fun _ _ _ h => h) (Or.inl ⟨by rfl, ?_⟩) hHeld2 ?_
      rotate_left
      · (intro w hSw; (try dsimp only at hSw); go_simp)
        try with_reducible rfl
      try simp only [Act.put, List.setIfInBounds_toArray, List.set_cons_zero, List.set_cons_succ]
      refine wpAnyH_take (i := 12) (oi := { dst := some 64, op := Op.binOp BinOp.eql 25 (Operand.tmp 63) (Operand.const (Value.int IntKind.i64 0)) 25, type := 4, pos := "law.go:38", after := #[{ on := 11, ground := Ground.data }, { on := 10, ground := Ground.guard }], guard := some (10, true) }) (v := ?_) rfl (by kernel_rfl) (by kernel_rfl) (by kernel_rfl) (fun _ _ _ h => h) (Or.inl ⟨by rfl, ?_⟩) hHeld2 ?_
      rotate_left
      · (intro w hSw; (try dsimp only at hSw); go_simp)
        try with_reducible rfl
      try simp only [Act.put, List.setIfInBounds_toArray, List.set_cons_zero, List.set_cons_succ]
      refine wpAnyH_take (i := 13) (oi := { dst := some 65, op := Op.pick (Operand.tmp 62) (Operand.tmp 64) (Operand.const (Value.bool false)), type := 4, pos := "law.go:38", after := #[{ on := 10, ground := Ground.data }, { on := 12, ground := Ground.data }], guard := none }) (v := ?_) rfl (by kernel_rfl) (by kernel_rfl) (by kernel_rfl) (fun _ _ _ h => h) (Or.inl ⟨by rfl, ?_⟩) hHeld2 ?_
      rotate_left
      · (intro w hSw; (try dsimp only at hSw); go_simp)
        try with_reducible rfl
      try simp only [Act.put, List.setIfInBounds_toArray, List.set_cons_zero, List.set_cons_succ]
      refine wpAnyH_take (i := 14) (oi := { dst := some 66, op := Op.move (Operand.tmp 65), type := 4, pos := "law.go:38", after := #[{ on := 13, ground := Ground.data }, { on := 10, ground := Ground.chain }], guard := none }) (v := ?_) rfl (by kernel_rfl) (by kernel_rfl) (by kernel_rfl) (fun _ _ _ h => h) (Or.inl ⟨by rfl, ?_⟩) hHeld2 ?_
      rotate_left
      · (intro w hSw; (try dsimp only at hSw); go_simp)
        try with_reducible rfl
      try simp only [Act.put, List.setIfInBounds_toArray, List.set_cons_zero, List.set_cons_succ]
      refine wpAnyH_take (i := 15) (oi := { dst := some 67, op := Op.move (Operand.tmp 6), type := 22, pos := "law.go:38", after := #[{ on := 14, ground := Ground.guard }], guard := some (14, true) }) (v := ?_) rfl (by kernel_rfl) (by kernel_rfl) (by kernel_rfl) (fun _ _ _ h => h) (Or.inl ⟨by rfl, ?_⟩) hHeld2 ?_
      rotate_left
      · (intro w hSw; (try dsimp only at hSw); go_simp)
        try with_reducible rfl
      try simp only [Act.put, List.setIfInBounds_toArray, List.set_cons_zero, List.set_cons_succ]
      refine wpAnyH_take (i := 16) (oi := { dst := some 68, op := Op.move (Operand.tmp 0), type := 22, pos := "law.go:38", after := #[{ on := 14, ground := Ground.guard }], guard := some (14, true) }) (v := ?_) rfl (by kernel_rfl) (by kernel_rfl) (by kernel_rfl) (fun _ _ _ h => h) (Or.inl ⟨by rfl, ?_⟩) hHeld2 ?_
      rotate_left
      · (intro w hSw; (try dsimp only at hSw); go_simp)
        try with_reducible rfl
      try simp only [Act.put, List.setIfInBounds_toArray, List.set_cons_zero, List.set_cons_succ]
      refine wpAnyH_ready (rs := [17]) (by kernel_rfl) (by simp) ?_
      refine AllReadyH.cons (o := { dst := some 69, op := Op.call { callee := Callee.value (Operand.func 14), args := #[Operand.tmp 67, Operand.tmp 68], argTypes := #[22, 22] }, type := 4, pos := "law.go:38", after := #[{ on := 15, ground := Ground.data }, { on := 16, ground := Ground.data }, { on := 14, ground := Ground.chain }, { on := 14, ground := Ground.guard }], guard := some (14, true) }) rfl (fun K hK => ?_) AllReadyH.nil
      go_simp
      go_at_call 14; have h1 := P9.out; have h2 := K9.out; refine (C7.out _ _ _ _ h1 h2).mono ?_; rintro e w10 ⟨rfl, hb⟩; have B10 := Go.Lib.hid (B9.out.trans (hb.mono B9.out.size)); have U10 := Go.Lib.hid (U9.out.keep hb); have t10 := text8 U10.out; clear hb h1 h2
      (try go_wp2_with fail)
      refine hK.out _ _ (by assumption) (fun hHeld3 => ?_)
      clear hK K
      try simp only [Act.put, List.setIfInBounds_toArray, List.set_cons_zero, List.set_cons_succ]
      refine wpAnyH_take (i := 18) (oi := { dst := some 70, op := Op.pick (Operand.tmp 66) (Operand.tmp 69) (Operand.const (Value.bool false)), type := 4, pos := "law.go:38", after := #[{ on := 14, ground := Ground.data }, { on := 17, ground := Ground.data }], guard := none }) (v := ?_) rfl (by kernel_rfl) (by kernel_rfl) (by kernel_rfl) (fun _ _ _ h => h) (Or.inl ⟨by rfl, ?_⟩) hHeld3 ?_
      rotate_left
      · (intro w hSw; (try dsimp only at hSw); go_simp)
        try with_reducible rfl
      try simp only [Act.put, List.setIfInBounds_toArray, List.set_cons_zero, List.set_cons_succ]
      refine wpAnyH_take (i := 19) (oi := { dst := some 71, op := Op.move (Operand.tmp 70), type := 4, pos := "law.go:38", after := #[{ on := 18, ground := Ground.data }, { on := 17, ground := Ground.chain }], guard := none }) (v := ?_) rfl (by kernel_rfl) (by kernel_rfl) (by kernel_rfl) (fun _ _ _ h => h) (Or.inl ⟨by rfl, ?_⟩) hHeld3 ?_
      rotate_left
      · (intro w hSw; (try dsimp only at hSw); go_simp)
        try with_reducible rfl
      try simp only [Act.put, List.setIfInBounds_toArray, List.set_cons_zero, List.set_cons_succ]
      refine wpAnyH_ready (rs := [20]) (by kernel_rfl) (by simp) ?_
      refine AllReadyH.cons (o := { dst := some 72, op := Op.call { callee := Callee.value (Operand.func 11), args := #[], argTypes := #[] }, type := 4, pos := "law.go:38", after := #[{ on := 19, ground := Ground.chain }, { on := 19, ground := Ground.guard }], guard := some (19, true) }) rfl (fun K hK => ?_) AllReadyH.nil
      go_simp
      go_at_call 11; refine (CLH.out _).mono ?_; rintro e w11 ⟨rfl, hb⟩; have B11 := Go.Lib.hid (B10.out.trans (hb.mono B10.out.size)); have U11 := Go.Lib.hid (U10.out.keep hb); have t11 := text8 U11.out; clear hb
      (try go_wp2_with fail)
      refine hK.out _ _ (by assumption) (fun hHeld4 => ?_)
      clear hK K
      try simp only [Act.put, List.setIfInBounds_toArray, List.set_cons_zero, List.set_cons_succ]
      refine wpAnyH_take (i := 21) (oi := { dst := some 73, op := Op.pick (Operand.tmp 71) (Operand.tmp 72) (Operand.const (Value.bool false)), type := 4, pos := "law.go:38", after := #[{ on := 19, ground := Ground.data }, { on := 20, ground := Ground.data }], guard := none }) (v := ?_) rfl (by kernel_rfl) (by kernel_rfl) (by kernel_rfl) (fun _ _ _ h => h) (Or.inl ⟨by rfl, ?_⟩) hHeld4 ?_
      rotate_left
      · (intro w hSw; (try dsimp only at hSw); go_simp)
        try with_reducible rfl
      try simp only [Act.put, List.setIfInBounds_toArray, List.set_cons_zero, List.set_cons_succ]
      refine wpAnyH_take (i := 22) (oi := { dst := some 2, op := Op.assign (Operand.tmp 73), type := 4, pos := "law.go:38", after := #[{ on := 21, ground := Ground.data }, { on := 20, ground := Ground.chain }, { on := 0, ground := Ground.phase }, { on := 1, ground := Ground.phase }, { on := 2, ground := Ground.phase }, { on := 3, ground := Ground.phase }, { on := 4, ground := Ground.phase }, { on := 5, ground := Ground.phase }, { on := 6, ground := Ground.phase }, { on := 7, ground := Ground.phase }, { on := 8, ground := Ground.phase }, { on := 9, ground := Ground.phase }, { on := 10, ground := Ground.phase }, { on := 11, ground := Ground.phase }, { on := 12, ground := Ground.phase }, { on := 13, ground := Ground.phase }, { on := 14, ground := Ground.phase }, { on := 15, ground := Ground.phase }, { on := 16, ground := Ground.phase }, { on := 17, ground := Ground.phase }, { on := 18, ground := Ground.phase }, { on := 19, ground := Ground.phase }, { on := 20, ground := Ground.phase }, { on := 21, ground := Ground.phase }], guard := none }) (v := ?_) rfl (by kernel_rfl) (by kernel_rfl) (by kernel_rfl) (fun _ _ _ h => h) (Or.inl ⟨by rfl, ?_⟩) hHeld4 ?_
      rotate_left
      · (intro w hSw; (try dsimp only at hSw); go_simp)
        try with_reducible rfl
      try simp only [Act.put, List.setIfInBounds_toArray, List.set_cons_zero, List.set_cons_succ]
      refine wpAnyH_done (by kernel_rfl) ?_ _
      refine NoPanic.normal ?_
      go_wp2
      go_ret
      exact ⟨rfl, B11.out⟩
theorem writes_walk (v : Value) (l : List Pf) (w : World) (hv : Pfxs w v l) : Calls Try.prog 3 #[v] w (Tells (.bool true) w) :=
  writes_of v l w hv (fun v l W h hl => encode_any v l W h (by omega)) size_any (fun v b W h hl => decode_any v b W h (by omega)) lives7_any
end Go.Proofs.Ytaemhgmekggliaa.PR
