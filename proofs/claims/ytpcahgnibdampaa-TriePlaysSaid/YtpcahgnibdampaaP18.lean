/- The reference's Above and Below. -/
import Derived.Test.YtpcahgnibdampaaP06
import Derived.Deep.DrawnRows
namespace Go.Proofs.Ytpcahgnibdampaa.Tri
open Go.RowKit Mem PR Pfx
attribute [local go_sem ↓] Go.wp_at_zero Go.wp_at_succ
theorem one_new2 {w : World} (x y : Value) (t : TypeId) : Row (w.alloc (.cells #[x, y] t)) 2 (.slice (some ⟨w.heap.size, 0, none⟩) 1 1) 1 [x, y] :=
  Row.of_own (base := 0) (e := t) ⟨rfl, .inr ⟨w.heap.size, 1, #[x, y], rfl, Nat.zero_le _, heap_alloc_new _ _, Nat.le_refl _, by decide, rfl, rfl⟩⟩
theorem app_one {W : World} {base base' n : Nat} {v : Value} {l : List Pf} {p : Pf} {t : TypeId} (h : W.ownsRow base' t 2 v n (pcells l ++ pcells [p])) (hb : base ≤ base') : W.ownsRow base t 2 v n (pcells (l ++ [p])) := by
  rw [pcells_append]; exact own_base h hb
theorem above_take {l : List Ent} {p : Pf} {i : Nat} {r : Ent} (h : l[i]? = some r) : aboveE (l.take (i + 1)) p = aboveE (l.take i) p ++ (if (decide (r.p ≠ p) && covP r.p p) = true then [r.p] else []) := by
  unfold aboveE
  rw [List.take_add_one, h, Option.toList_some, List.filter_append, List.map_append]
  congr 1
  rw [List.filter_cons]
  split <;> simp_all
theorem above_len {l : List Ent} {p : Pf} : (aboveE l p).length ≤ l.length := by
  unfold aboveE
  rw [List.length_map]
  exact List.length_filter_le _ _
set_option maxRecDepth 100000 in
set_option maxHeartbeats 8000000 in
theorem rabove_any (v : Value) (l : List Ent) (p : Pf) (w : World) (hv : Rws w v l) (hp : p.a < 4294967296) (hl : l.length ≤ 1000) :
    Calls Try.prog 16 #[v, pV p] w (GivesP (aboveE l p) w) := by
  obtain ⟨i0, E0⟩ := elemP
  have HV := Go.Lib.hid hv
  obtain ⟨A, c, rfl, hlc, hc⟩ := hv.form
  obtain ⟨R, hR⟩ : ∃ R, R = aboveE l p := ⟨_, rfl⟩
  rw [← hR]
  have HR := Go.Lib.hid hR
  obtain ⟨qa, qn⟩ := p
  unfold pV
  dsimp only at hp ⊢
  have hb0 := below_new w (.cells #[.int .u32 (qa : Int), .int .i64 qn] 25)
  obtain ⟨c0, c1⟩ := cells_two w (.int .u32 (qa : Int)) (.int .i64 qn) 25
  have hlt0 : w.heap.size < (w.alloc (.cells #[.int .u32 (qa : Int), .int .i64 qn] 25)).heap.size := by simp
  obtain ⟨wp, hwp⟩ : ∃ wp, wp = w.alloc (.cells #[.int .u32 (qa : Int), .int .i64 qn] 25) := ⟨_, rfl⟩
  rw [← hwp] at hb0 c0 c1 hlt0
  have hsz : wp.heap.size = w.heap.size + 1 := by rw [hwp]; simp
  have HB := Go.Lib.hid hb0
  have HKP := Go.Lib.hid (fun (W : World) (h : Below wp.heap.size wp W) => (⟨(h.cell (p := ⟨w.heap.size, 0, none⟩) hlt0).trans c0, (h.cell (p := ⟨w.heap.size, 1, none⟩) hlt0).trans c1⟩ : W.cell? ⟨w.heap.size, 0, none⟩ = some (.int .u32 qa) ∧ W.cell? ⟨w.heap.size, 1, none⟩ = some (.int .i64 qn)))
  have HO := Go.Lib.hid (show (wp.alloc (.cells #[] 25)).ownsRow wp.heap.size 25 2 (.slice (some ⟨w.heap.size + 1, 0, none⟩) 0 0) 0 (pcells []) by
    rw [← hsz]
    exact own_blk2 (Nat.le_refl _) (heap_alloc_new _ _))
  have HB1 := Go.Lib.hid (show Below wp.heap.size wp (wp.alloc (.cells #[] 25)) from (Below.refl _ _).alloc (Nat.le_refl _) _)
  have HWP := Go.Lib.hid hwp
  clear hv hR hb0 c0 c1 hlt0 hwp hsz
  go_enter Try.func16, Try.ntmps16
  go_wp2
  rw [← HWP.out]
  go_loopw [5, 6] (fun v5 v6 wx => ∃ (j m : Nat) (A : Option Addr) (c : Nat) (out : List Pf), j ≤ l.length ∧ v6 = .int .i64 j ∧ v5 = .slice A m c ∧ m ≤ j ∧ Hid (m = out.length) ∧ Hid (out = aboveE (l.take j) ⟨qa, qn⟩) ∧ Hid (wx.ownsRow wp.heap.size 25 2 (.slice A m c) m (pcells out)) ∧ Hid (Below wp.heap.size wp wx)) (fun _ v6 _ => l.length - (intOf v6).toNat)
  case atStart => exact ⟨0, 0, _, 0, [], Nat.zero_le _, rfl, rfl, Nat.le_refl _, Go.Lib.hid rfl, Go.Lib.hid (by simp [aboveE]), HO, HB1⟩
  case round =>
    obtain ⟨j, m, Ar, cr, out, hj, rfl, rfl, hmj, hm, hso, hown, hb⟩ := hrel
    by_cases hlt : j < l.length
    · obtain ⟨r, hr⟩ : ∃ r, l[j]? = some r := ⟨_, List.getElem?_eq_getElem hlt⟩
      obtain ⟨bl, off, rfl, hbl, k0, k1, _⟩ := (HV.out).at_ hr
      have hro := ((HV.out).2 r (List.mem_of_getElem? hr)).1.1
      have HST := Go.Lib.hid (above_take (p := ⟨qa, qn⟩) hr)
      have HKC := Go.Lib.hid (fun (W : World) (h : Below wp.heap.size wp W) => (⟨((HB.out.trans (h.mono HB.out.size)).cell (p := ⟨bl, off + j * 3, none⟩) hbl).trans k0, ((HB.out.trans (h.mono HB.out.size)).cell (p := ⟨bl, off + j * 3 + 1, none⟩) hbl).trans k1⟩ : W.cell? ⟨bl, off + j * 3, none⟩ = some (.int .u32 r.p.a) ∧ W.cell? ⟨bl, off + j * 3 + 1, none⟩ = some (.int .i64 r.p.n)))
      have z0 : (0 : Int) ≤ (j : Int) := by omega
      have z1 : (j : Int) < (l.length : Int) := by omega
      clear k0 k1 hr hbl
      by_cases he : r.p = ⟨qa, qn⟩
      · have HS0 := Go.Lib.hid (show aboveE (l.take (j + 1)) ⟨qa, qn⟩ = out by rw [HST.out, hso.out, he]; simp)
        obtain ⟨c0, c1⟩ := HKC.out _ hb.out
        obtain ⟨d0, d1⟩ := HKP.out _ hb.out
        rw [he] at c0 c1
        dsimp only at c0 c1
        clear HST he
        go_wp2
        go_quiet (fail)
        go_wp2
        go_roundw
        case rel => exact ⟨j + 1, m, _, _, out, hlt, by go_num, rfl, by omega, hm, Go.Lib.hid HS0.out.symm, Go.Lib.hid (own_keep hown.out (Mem.below_drewN _ _)), Go.Lib.hid (hb.out.trans ((Mem.below_drewN _ _).mono hb.out.size))⟩
        case measure => simp [intOf]; omega
      · have hap := pf_apart he
        have HNE := Go.Lib.hid he
        obtain ⟨⟨ra, rn⟩, rv⟩ := r
        dsimp only at hap HKC HST HNE hro
        have hd : decide ((⟨ra, rn⟩ : Pf) ≠ ⟨qa, qn⟩) = true := decide_eq_true HNE.out
        rw [hd, Bool.true_and] at HST
        have CC := Go.Lib.hid (fun (W : World) => refCovers_any ra rn qa qn hro hp W)
        clear he hd hro hp
        cases hc : coversB ra rn qa qn with
        | false =>
          have HS0 := Go.Lib.hid (show aboveE (l.take (j + 1)) ⟨qa, qn⟩ = out by rw [HST.out, hso.out, show covP ⟨ra, rn⟩ ⟨qa, qn⟩ = false from hc]; simp)
          rw [hc] at CC
          have HS := Go.Lib.hid (fun (W : World) (h : Below wr.heap.size wr W) => (⟨(HKC.out W (hb.out.trans (h.mono hb.out.size))).1, (HKC.out W (hb.out.trans (h.mono hb.out.size))).2, (HKP.out W (hb.out.trans (h.mono hb.out.size))).1, (HKP.out W (hb.out.trans (h.mono hb.out.size))).2⟩ :
            W.cell? ⟨bl, off + j * 3, none⟩ = some (.int .u32 ra) ∧ W.cell? ⟨bl, off + j * 3 + 1, none⟩ = some (.int .i64 rn) ∧ W.cell? ⟨w.heap.size, 0, none⟩ = some (.int .u32 qa) ∧ W.cell? ⟨w.heap.size, 1, none⟩ = some (.int .i64 qn)))
          have hS0 := HS.out _ (Below.refl wr.heap.size wr).drew
          clear hc HST
          rcases hap with y1 | ⟨rfl, y1⟩
          · go_wp2
            go_region_held3 (fun w' => w'.cell? ⟨bl, off + j * 3, none⟩ = some (.int .u32 ra) ∧ w'.cell? ⟨bl, off + j * 3 + 1, none⟩ = some (.int .i64 rn) ∧ w'.cell? ⟨w.heap.size, 0, none⟩ = some (.int .u32 qa) ∧ w'.cell? ⟨w.heap.size, 1, none⟩ = some (.int .i64 qn)) (assumption) (first
              | (go_at_call 29; refine (CC.out _).mono ?_; rintro e w2 ⟨rfl, hb2⟩; have hb3 := ((Below.refl wr.heap.size wr).drew).trans (hb2.mono ((Below.refl wr.heap.size wr).drew).size); have H2 := Go.Lib.hid hb3; have hS1 := HS.out _ hb3; clear hb2 hb3 hS0))
            obtain ⟨e0, e1, e2, e3⟩ := hS1
            have BN := Go.Lib.hid (hb.out.trans (H2.out.mono hb.out.size))
            have ON := Go.Lib.hid (own_keep hown.out H2.out)
            go_wp2
            go_roundw
            case rel => exact ⟨j + 1, m, _, _, out, hlt, by go_num, rfl, by omega, hm, Go.Lib.hid HS0.out.symm, ON, BN⟩
            case measure => simp [intOf]; omega
          · go_wp2
            go_region_held3 (fun w' => w'.cell? ⟨bl, off + j * 3, none⟩ = some (.int .u32 ra) ∧ w'.cell? ⟨bl, off + j * 3 + 1, none⟩ = some (.int .i64 rn) ∧ w'.cell? ⟨w.heap.size, 0, none⟩ = some (.int .u32 ra) ∧ w'.cell? ⟨w.heap.size, 1, none⟩ = some (.int .i64 qn)) (assumption) (first
              | (go_at_call 29; refine (CC.out _).mono ?_; rintro e w2 ⟨rfl, hb2⟩; have hb3 := ((Below.refl wr.heap.size wr).drew).trans (hb2.mono ((Below.refl wr.heap.size wr).drew).size); have H2 := Go.Lib.hid hb3; have hS1 := HS.out _ hb3; clear hb2 hb3 hS0))
            obtain ⟨e0, e1, e2, e3⟩ := hS1
            have BN := Go.Lib.hid (hb.out.trans (H2.out.mono hb.out.size))
            have ON := Go.Lib.hid (own_keep hown.out H2.out)
            go_wp2
            go_roundw
            case rel => exact ⟨j + 1, m, _, _, out, hlt, by go_num, rfl, by omega, hm, Go.Lib.hid HS0.out.symm, ON, BN⟩
            case measure => simp [intOf]; omega
        | true =>
          have HS0 := Go.Lib.hid (show aboveE (l.take (j + 1)) ⟨qa, qn⟩ = out ++ [⟨ra, rn⟩] by rw [HST.out, hso.out, show covP ⟨ra, rn⟩ ⟨qa, qn⟩ = true from hc]; simp)
          rw [hc] at CC
          have HS := Go.Lib.hid (fun (W : World) (h : Below wr.heap.size wr W) => (⟨(HKC.out W (hb.out.trans (h.mono hb.out.size))).1, (HKC.out W (hb.out.trans (h.mono hb.out.size))).2, (HKP.out W (hb.out.trans (h.mono hb.out.size))).1, (HKP.out W (hb.out.trans (h.mono hb.out.size))).2⟩ :
            W.cell? ⟨bl, off + j * 3, none⟩ = some (.int .u32 ra) ∧ W.cell? ⟨bl, off + j * 3 + 1, none⟩ = some (.int .i64 rn) ∧ W.cell? ⟨w.heap.size, 0, none⟩ = some (.int .u32 qa) ∧ W.cell? ⟨w.heap.size, 1, none⟩ = some (.int .i64 qn)))
          have hS0 := HS.out _ (Below.refl wr.heap.size wr).drew
          have hml : m ≤ 1000 := by omega
          clear hc HST
          rcases hap with y1 | ⟨rfl, y1⟩
          · go_wp2
            go_region_held3 (fun w' => w'.cell? ⟨bl, off + j * 3, none⟩ = some (.int .u32 ra) ∧ w'.cell? ⟨bl, off + j * 3 + 1, none⟩ = some (.int .i64 rn) ∧ w'.cell? ⟨w.heap.size, 0, none⟩ = some (.int .u32 qa) ∧ w'.cell? ⟨w.heap.size, 1, none⟩ = some (.int .i64 qn)) (assumption) (first
              | (go_at_call 29; refine (CC.out _).mono ?_; rintro e w2 ⟨rfl, hb2⟩; have hb3 := ((Below.refl wr.heap.size wr).drew).trans (hb2.mono ((Below.refl wr.heap.size wr).drew).size); have H2 := Go.Lib.hid hb3; have hS1 := HS.out _ hb3; clear hb2 hb3 hS0))
            obtain ⟨e0, e1, e2, e3⟩ := hS1
            have BN := Go.Lib.hid (hb.out.trans (H2.out.mono hb.out.size))
            have ON := Go.Lib.hid (own_keep hown.out H2.out)
            have O2 := Go.Lib.hid (own_keep ON.out ((Below.refl _ w2).alloc (Nat.le_refl _) (.cells #[.int .u32 ra, .int .i64 rn] 25)))
            have B2 := Go.Lib.hid (BN.out.alloc BN.out.size (.cells #[.int .u32 ra, .int .i64 rn] 25))
            go_wp2_with (at_builtin; refine wpList_append_row rfl (.tmp 30) (.tmp 36) rfl E0 wp.heap.size _ m _ rfl O2.out _ 1 (pcells [⟨ra, rn⟩]) rfl (one_new2 _ _ _) (ones_p _) (by unfold maxLen; omega) (by omega) B2.out.size (m + 1) rfl ?_; intro A4 c4 w4 hown4 hg4 hat4 hb4; have O4 := Go.Lib.hid hown4; have B4 := Go.Lib.hid (B2.out.trans hb4); clear hown4 hg4 hat4 hb4)
            go_roundw
            case rel => exact ⟨j + 1, m + 1, _, _, out ++ [⟨ra, rn⟩], hlt, by go_num, rfl, by omega, Go.Lib.hid (by rw [hm.out]; simp), Go.Lib.hid HS0.out.symm, Go.Lib.hid (app_one O4.out (Nat.le_refl _)), B4⟩
            case measure => simp [intOf]; omega
          · go_wp2
            go_region_held3 (fun w' => w'.cell? ⟨bl, off + j * 3, none⟩ = some (.int .u32 ra) ∧ w'.cell? ⟨bl, off + j * 3 + 1, none⟩ = some (.int .i64 rn) ∧ w'.cell? ⟨w.heap.size, 0, none⟩ = some (.int .u32 ra) ∧ w'.cell? ⟨w.heap.size, 1, none⟩ = some (.int .i64 qn)) (assumption) (first
              | (go_at_call 29; refine (CC.out _).mono ?_; rintro e w2 ⟨rfl, hb2⟩; have hb3 := ((Below.refl wr.heap.size wr).drew).trans (hb2.mono ((Below.refl wr.heap.size wr).drew).size); have H2 := Go.Lib.hid hb3; have hS1 := HS.out _ hb3; clear hb2 hb3 hS0))
            obtain ⟨e0, e1, e2, e3⟩ := hS1
            have BN := Go.Lib.hid (hb.out.trans (H2.out.mono hb.out.size))
            have ON := Go.Lib.hid (own_keep hown.out H2.out)
            have O2 := Go.Lib.hid (own_keep ON.out ((Below.refl _ w2).alloc (Nat.le_refl _) (.cells #[.int .u32 ra, .int .i64 rn] 25)))
            have B2 := Go.Lib.hid (BN.out.alloc BN.out.size (.cells #[.int .u32 ra, .int .i64 rn] 25))
            go_wp2_with (at_builtin; refine wpList_append_row rfl (.tmp 30) (.tmp 36) rfl E0 wp.heap.size _ m _ rfl O2.out _ 1 (pcells [⟨ra, rn⟩]) rfl (one_new2 _ _ _) (ones_p _) (by unfold maxLen; omega) (by omega) B2.out.size (m + 1) rfl ?_; intro A4 c4 w4 hown4 hg4 hat4 hb4; have O4 := Go.Lib.hid hown4; have B4 := Go.Lib.hid (B2.out.trans hb4); clear hown4 hg4 hat4 hb4)
            go_roundw
            case rel => exact ⟨j + 1, m + 1, _, _, out ++ [⟨ra, rn⟩], hlt, by go_num, rfl, by omega, Go.Lib.hid (by rw [hm.out]; simp), Go.Lib.hid HS0.out.symm, Go.Lib.hid (app_one O4.out (Nat.le_refl _)), B4⟩
            case measure => simp [intOf]; omega
    · have HJ := Go.Lib.hid (show j = l.length by omega)
      have z1 : decide ((j : Int) < (l.length : Int)) = false := decide_eq_false (by omega)
      have HE := Go.Lib.hid (show out = R by rw [hso.out, HJ.out, List.take_length, HR.out])
      go_wp2
      go_ret
      refine ⟨_, _, by rw [← HE.out, ← hm.out]; rfl, ?_, HB.out.trans (hb.out.mono HB.out.size)⟩
      rw [← HE.out, ← hm.out]
      exact own_base hown.out HB.out.size
theorem below_take {l : List Ent} {p : Pf} {i : Nat} {r : Ent} (h : l[i]? = some r) : belowE (l.take (i + 1)) p = belowE (l.take i) p ++ (if (decide (r.p ≠ p) && covP p r.p) = true then [r.p] else []) := by
  unfold belowE
  rw [List.take_add_one, h, Option.toList_some, List.filter_append, List.map_append]
  congr 1
  rw [List.filter_cons]
  split <;> simp_all
set_option maxRecDepth 100000 in
set_option maxHeartbeats 8000000 in
theorem rbelow_any (v : Value) (l : List Ent) (p : Pf) (w : World) (hv : Rws w v l) (hp : p.a < 4294967296) (hl : l.length ≤ 1000) :
    Calls Try.prog 13 #[v, pV p] w (GivesP (belowE l p) w) := by
  obtain ⟨i0, E0⟩ := elemP
  have HV := Go.Lib.hid hv
  obtain ⟨A, c, rfl, hlc, hc⟩ := hv.form
  obtain ⟨R, hR⟩ : ∃ R, R = belowE l p := ⟨_, rfl⟩
  rw [← hR]
  have HR := Go.Lib.hid hR
  obtain ⟨qa, qn⟩ := p
  unfold pV
  dsimp only at hp ⊢
  have hb0 := below_new w (.cells #[.int .u32 (qa : Int), .int .i64 qn] 25)
  obtain ⟨c0, c1⟩ := cells_two w (.int .u32 (qa : Int)) (.int .i64 qn) 25
  have hlt0 : w.heap.size < (w.alloc (.cells #[.int .u32 (qa : Int), .int .i64 qn] 25)).heap.size := by simp
  obtain ⟨wp, hwp⟩ : ∃ wp, wp = w.alloc (.cells #[.int .u32 (qa : Int), .int .i64 qn] 25) := ⟨_, rfl⟩
  rw [← hwp] at hb0 c0 c1 hlt0
  have hsz : wp.heap.size = w.heap.size + 1 := by rw [hwp]; simp
  have HB := Go.Lib.hid hb0
  have HKP := Go.Lib.hid (fun (W : World) (h : Below wp.heap.size wp W) => (⟨(h.cell (p := ⟨w.heap.size, 0, none⟩) hlt0).trans c0, (h.cell (p := ⟨w.heap.size, 1, none⟩) hlt0).trans c1⟩ : W.cell? ⟨w.heap.size, 0, none⟩ = some (.int .u32 qa) ∧ W.cell? ⟨w.heap.size, 1, none⟩ = some (.int .i64 qn)))
  have HO := Go.Lib.hid (show (wp.alloc (.cells #[] 25)).ownsRow wp.heap.size 25 2 (.slice (some ⟨w.heap.size + 1, 0, none⟩) 0 0) 0 (pcells []) by
    rw [← hsz]
    exact own_blk2 (Nat.le_refl _) (heap_alloc_new _ _))
  have HB1 := Go.Lib.hid (show Below wp.heap.size wp (wp.alloc (.cells #[] 25)) from (Below.refl _ _).alloc (Nat.le_refl _) _)
  have HWP := Go.Lib.hid hwp
  clear hv hR hb0 c0 c1 hlt0 hwp hsz
  go_enter Try.func13, Try.ntmps13
  go_wp2
  rw [← HWP.out]
  go_loopw [5, 6] (fun v5 v6 wx => ∃ (j m : Nat) (A : Option Addr) (c : Nat) (out : List Pf), j ≤ l.length ∧ v6 = .int .i64 j ∧ v5 = .slice A m c ∧ m ≤ j ∧ Hid (m = out.length) ∧ Hid (out = belowE (l.take j) ⟨qa, qn⟩) ∧ Hid (wx.ownsRow wp.heap.size 25 2 (.slice A m c) m (pcells out)) ∧ Hid (Below wp.heap.size wp wx)) (fun _ v6 _ => l.length - (intOf v6).toNat)
  case atStart => exact ⟨0, 0, _, 0, [], Nat.zero_le _, rfl, rfl, Nat.le_refl _, Go.Lib.hid rfl, Go.Lib.hid (by simp [belowE]), HO, HB1⟩
  case round =>
    obtain ⟨j, m, Ar, cr, out, hj, rfl, rfl, hmj, hm, hso, hown, hb⟩ := hrel
    by_cases hlt : j < l.length
    · obtain ⟨r, hr⟩ : ∃ r, l[j]? = some r := ⟨_, List.getElem?_eq_getElem hlt⟩
      obtain ⟨bl, off, rfl, hbl, k0, k1, _⟩ := (HV.out).at_ hr
      have hro := ((HV.out).2 r (List.mem_of_getElem? hr)).1.1
      have HST := Go.Lib.hid (below_take (p := ⟨qa, qn⟩) hr)
      have HKC := Go.Lib.hid (fun (W : World) (h : Below wp.heap.size wp W) => (⟨((HB.out.trans (h.mono HB.out.size)).cell (p := ⟨bl, off + j * 3, none⟩) hbl).trans k0, ((HB.out.trans (h.mono HB.out.size)).cell (p := ⟨bl, off + j * 3 + 1, none⟩) hbl).trans k1⟩ : W.cell? ⟨bl, off + j * 3, none⟩ = some (.int .u32 r.p.a) ∧ W.cell? ⟨bl, off + j * 3 + 1, none⟩ = some (.int .i64 r.p.n)))
      have z0 : (0 : Int) ≤ (j : Int) := by omega
      have z1 : (j : Int) < (l.length : Int) := by omega
      clear k0 k1 hr hbl
      by_cases he : r.p = ⟨qa, qn⟩
      · have HS0 := Go.Lib.hid (show belowE (l.take (j + 1)) ⟨qa, qn⟩ = out by rw [HST.out, hso.out, he]; simp)
        obtain ⟨c0, c1⟩ := HKC.out _ hb.out
        obtain ⟨d0, d1⟩ := HKP.out _ hb.out
        rw [he] at c0 c1
        dsimp only at c0 c1
        clear HST he
        go_wp2
        go_quiet (fail)
        go_wp2
        go_roundw
        case rel => exact ⟨j + 1, m, _, _, out, hlt, by go_num, rfl, by omega, hm, Go.Lib.hid HS0.out.symm, Go.Lib.hid (own_keep hown.out (Mem.below_drewN _ _)), Go.Lib.hid (hb.out.trans ((Mem.below_drewN _ _).mono hb.out.size))⟩
        case measure => simp [intOf]; omega
      · have hap := pf_apart he
        have HNE := Go.Lib.hid he
        obtain ⟨⟨ra, rn⟩, rv⟩ := r
        dsimp only at hap HKC HST HNE hro
        have hd : decide ((⟨ra, rn⟩ : Pf) ≠ ⟨qa, qn⟩) = true := decide_eq_true HNE.out
        rw [hd, Bool.true_and] at HST
        have CC := Go.Lib.hid (fun (W : World) => refCovers_any qa qn ra rn hp hro W)
        clear he hd hro hp
        cases hc : coversB qa qn ra rn with
        | false =>
          have HS0 := Go.Lib.hid (show belowE (l.take (j + 1)) ⟨qa, qn⟩ = out by rw [HST.out, hso.out, show covP ⟨qa, qn⟩ ⟨ra, rn⟩ = false from hc]; simp)
          rw [hc] at CC
          have HS := Go.Lib.hid (fun (W : World) (h : Below wr.heap.size wr W) => (⟨(HKC.out W (hb.out.trans (h.mono hb.out.size))).1, (HKC.out W (hb.out.trans (h.mono hb.out.size))).2, (HKP.out W (hb.out.trans (h.mono hb.out.size))).1, (HKP.out W (hb.out.trans (h.mono hb.out.size))).2⟩ :
            W.cell? ⟨bl, off + j * 3, none⟩ = some (.int .u32 ra) ∧ W.cell? ⟨bl, off + j * 3 + 1, none⟩ = some (.int .i64 rn) ∧ W.cell? ⟨w.heap.size, 0, none⟩ = some (.int .u32 qa) ∧ W.cell? ⟨w.heap.size, 1, none⟩ = some (.int .i64 qn)))
          have hS0 := HS.out _ (Below.refl wr.heap.size wr).drew
          clear hc HST
          rcases hap with y1 | ⟨rfl, y1⟩
          · go_wp2
            go_region_held3 (fun w' => w'.cell? ⟨bl, off + j * 3, none⟩ = some (.int .u32 ra) ∧ w'.cell? ⟨bl, off + j * 3 + 1, none⟩ = some (.int .i64 rn) ∧ w'.cell? ⟨w.heap.size, 0, none⟩ = some (.int .u32 qa) ∧ w'.cell? ⟨w.heap.size, 1, none⟩ = some (.int .i64 qn)) (assumption) (first
              | (go_at_call 29; refine (CC.out _).mono ?_; rintro e w2 ⟨rfl, hb2⟩; have hb3 := ((Below.refl wr.heap.size wr).drew).trans (hb2.mono ((Below.refl wr.heap.size wr).drew).size); have H2 := Go.Lib.hid hb3; have hS1 := HS.out _ hb3; clear hb2 hb3 hS0))
            obtain ⟨e0, e1, e2, e3⟩ := hS1
            have BN := Go.Lib.hid (hb.out.trans (H2.out.mono hb.out.size))
            have ON := Go.Lib.hid (own_keep hown.out H2.out)
            go_wp2
            go_roundw
            case rel => exact ⟨j + 1, m, _, _, out, hlt, by go_num, rfl, by omega, hm, Go.Lib.hid HS0.out.symm, ON, BN⟩
            case measure => simp [intOf]; omega
          · go_wp2
            go_region_held3 (fun w' => w'.cell? ⟨bl, off + j * 3, none⟩ = some (.int .u32 ra) ∧ w'.cell? ⟨bl, off + j * 3 + 1, none⟩ = some (.int .i64 rn) ∧ w'.cell? ⟨w.heap.size, 0, none⟩ = some (.int .u32 ra) ∧ w'.cell? ⟨w.heap.size, 1, none⟩ = some (.int .i64 qn)) (assumption) (first
              | (go_at_call 29; refine (CC.out _).mono ?_; rintro e w2 ⟨rfl, hb2⟩; have hb3 := ((Below.refl wr.heap.size wr).drew).trans (hb2.mono ((Below.refl wr.heap.size wr).drew).size); have H2 := Go.Lib.hid hb3; have hS1 := HS.out _ hb3; clear hb2 hb3 hS0))
            obtain ⟨e0, e1, e2, e3⟩ := hS1
            have BN := Go.Lib.hid (hb.out.trans (H2.out.mono hb.out.size))
            have ON := Go.Lib.hid (own_keep hown.out H2.out)
            go_wp2
            go_roundw
            case rel => exact ⟨j + 1, m, _, _, out, hlt, by go_num, rfl, by omega, hm, Go.Lib.hid HS0.out.symm, ON, BN⟩
            case measure => simp [intOf]; omega
        | true =>
          have HS0 := Go.Lib.hid (show belowE (l.take (j + 1)) ⟨qa, qn⟩ = out ++ [⟨ra, rn⟩] by rw [HST.out, hso.out, show covP ⟨qa, qn⟩ ⟨ra, rn⟩ = true from hc]; simp)
          rw [hc] at CC
          have HS := Go.Lib.hid (fun (W : World) (h : Below wr.heap.size wr W) => (⟨(HKC.out W (hb.out.trans (h.mono hb.out.size))).1, (HKC.out W (hb.out.trans (h.mono hb.out.size))).2, (HKP.out W (hb.out.trans (h.mono hb.out.size))).1, (HKP.out W (hb.out.trans (h.mono hb.out.size))).2⟩ :
            W.cell? ⟨bl, off + j * 3, none⟩ = some (.int .u32 ra) ∧ W.cell? ⟨bl, off + j * 3 + 1, none⟩ = some (.int .i64 rn) ∧ W.cell? ⟨w.heap.size, 0, none⟩ = some (.int .u32 qa) ∧ W.cell? ⟨w.heap.size, 1, none⟩ = some (.int .i64 qn)))
          have hS0 := HS.out _ (Below.refl wr.heap.size wr).drew
          have hml : m ≤ 1000 := by omega
          clear hc HST
          rcases hap with y1 | ⟨rfl, y1⟩
          · go_wp2
            go_region_held3 (fun w' => w'.cell? ⟨bl, off + j * 3, none⟩ = some (.int .u32 ra) ∧ w'.cell? ⟨bl, off + j * 3 + 1, none⟩ = some (.int .i64 rn) ∧ w'.cell? ⟨w.heap.size, 0, none⟩ = some (.int .u32 qa) ∧ w'.cell? ⟨w.heap.size, 1, none⟩ = some (.int .i64 qn)) (assumption) (first
              | (go_at_call 29; refine (CC.out _).mono ?_; rintro e w2 ⟨rfl, hb2⟩; have hb3 := ((Below.refl wr.heap.size wr).drew).trans (hb2.mono ((Below.refl wr.heap.size wr).drew).size); have H2 := Go.Lib.hid hb3; have hS1 := HS.out _ hb3; clear hb2 hb3 hS0))
            obtain ⟨e0, e1, e2, e3⟩ := hS1
            have BN := Go.Lib.hid (hb.out.trans (H2.out.mono hb.out.size))
            have ON := Go.Lib.hid (own_keep hown.out H2.out)
            have O2 := Go.Lib.hid (own_keep ON.out ((Below.refl _ w2).alloc (Nat.le_refl _) (.cells #[.int .u32 ra, .int .i64 rn] 25)))
            have B2 := Go.Lib.hid (BN.out.alloc BN.out.size (.cells #[.int .u32 ra, .int .i64 rn] 25))
            go_wp2_with (at_builtin; refine wpList_append_row rfl (.tmp 30) (.tmp 36) rfl E0 wp.heap.size _ m _ rfl O2.out _ 1 (pcells [⟨ra, rn⟩]) rfl (one_new2 _ _ _) (ones_p _) (by unfold maxLen; omega) (by omega) B2.out.size (m + 1) rfl ?_; intro A4 c4 w4 hown4 hg4 hat4 hb4; have O4 := Go.Lib.hid hown4; have B4 := Go.Lib.hid (B2.out.trans hb4); clear hown4 hg4 hat4 hb4)
            go_roundw
            case rel => exact ⟨j + 1, m + 1, _, _, out ++ [⟨ra, rn⟩], hlt, by go_num, rfl, by omega, Go.Lib.hid (by rw [hm.out]; simp), Go.Lib.hid HS0.out.symm, Go.Lib.hid (app_one O4.out (Nat.le_refl _)), B4⟩
            case measure => simp [intOf]; omega
          · go_wp2
            go_region_held3 (fun w' => w'.cell? ⟨bl, off + j * 3, none⟩ = some (.int .u32 ra) ∧ w'.cell? ⟨bl, off + j * 3 + 1, none⟩ = some (.int .i64 rn) ∧ w'.cell? ⟨w.heap.size, 0, none⟩ = some (.int .u32 ra) ∧ w'.cell? ⟨w.heap.size, 1, none⟩ = some (.int .i64 qn)) (assumption) (first
              | (go_at_call 29; refine (CC.out _).mono ?_; rintro e w2 ⟨rfl, hb2⟩; have hb3 := ((Below.refl wr.heap.size wr).drew).trans (hb2.mono ((Below.refl wr.heap.size wr).drew).size); have H2 := Go.Lib.hid hb3; have hS1 := HS.out _ hb3; clear hb2 hb3 hS0))
            obtain ⟨e0, e1, e2, e3⟩ := hS1
            have BN := Go.Lib.hid (hb.out.trans (H2.out.mono hb.out.size))
            have ON := Go.Lib.hid (own_keep hown.out H2.out)
            have O2 := Go.Lib.hid (own_keep ON.out ((Below.refl _ w2).alloc (Nat.le_refl _) (.cells #[.int .u32 ra, .int .i64 rn] 25)))
            have B2 := Go.Lib.hid (BN.out.alloc BN.out.size (.cells #[.int .u32 ra, .int .i64 rn] 25))
            go_wp2_with (at_builtin; refine wpList_append_row rfl (.tmp 30) (.tmp 36) rfl E0 wp.heap.size _ m _ rfl O2.out _ 1 (pcells [⟨ra, rn⟩]) rfl (one_new2 _ _ _) (ones_p _) (by unfold maxLen; omega) (by omega) B2.out.size (m + 1) rfl ?_; intro A4 c4 w4 hown4 hg4 hat4 hb4; have O4 := Go.Lib.hid hown4; have B4 := Go.Lib.hid (B2.out.trans hb4); clear hown4 hg4 hat4 hb4)
            go_roundw
            case rel => exact ⟨j + 1, m + 1, _, _, out ++ [⟨ra, rn⟩], hlt, by go_num, rfl, by omega, Go.Lib.hid (by rw [hm.out]; simp), Go.Lib.hid HS0.out.symm, Go.Lib.hid (app_one O4.out (Nat.le_refl _)), B4⟩
            case measure => simp [intOf]; omega
    · have HJ := Go.Lib.hid (show j = l.length by omega)
      have z1 : decide ((j : Int) < (l.length : Int)) = false := decide_eq_false (by omega)
      have HE := Go.Lib.hid (show out = R by rw [hso.out, HJ.out, List.take_length, HR.out])
      go_wp2
      go_ret
      refine ⟨_, _, by rw [← HE.out, ← hm.out]; rfl, ?_, HB.out.trans (hb.out.mono HB.out.size)⟩
      rw [← HE.out, ← hm.out]
      exact own_base hown.out HB.out.size
end Go.Proofs.Ytpcahgnibdampaa.Tri
