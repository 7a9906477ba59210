/- TallyOrder: the law's walk, over a tally's face. -/
import Derived.Test.YtifaclbafmpiiaaTalPair
namespace Go.Proofs.Ytifaclbafmpiiaa.Tal
open Go.RowKit Mem

theorem plus_small {xs : List Plus} {l : List Act} (h : xs = l.map plusOf) : ∀ x ∈ xs, x.2.1 ≤ 1073741824 ∧ x.2.2 ≤ 1073741824 := fun x hx => by
  rw [h] at hx
  obtain ⟨y, _, rfl⟩ := List.mem_map.1 hx
  exact ⟨Nat.le_trans (mask_nat y.up).2 (by decide), Nat.le_trans (mask_nat y.down).2 (by decide)⟩
theorem under_forty {ys : List Plus} (h : ∀ x ∈ ys, x.2.1 ≤ 1073741824 ∧ x.2.2 ≤ 1073741824) (hl : ys.length ≤ 40) : Under (40 * 1073741824) (accA ys) := fun r hr => by
  have h1 := acc_under ys h r hr
  have h2 : ys.length * 1073741824 ≤ 40 * 1073741824 := Nat.mul_le_mul_right _ hl
  exact ⟨Nat.le_trans h1.1 h2, Nat.le_trans h1.2 h2⟩

set_option maxRecDepth 100000 in
set_option maxHeartbeats 4000000 in
theorem order_of (T : World → Value → List Cnt → (Nat → Prop) → Prop) (HF0 : Face T) (v : Value) (l : List Act) (w : World) (hv : Acts w v l)
    (CN : Hid (∀ W, Calls Try.prog 8 #[] W (NewF T W)))
    (CA : Hid (∀ v l F (key : Nat) up down W, key < 4294967296 → T W v l F → up ≤ 1073741824 → down ≤ 1073741824 → l.length ≤ 2000 → Under (40 * 1073741824) l → Calls Try.prog 12 #[v, .int .u32 (key : Nat), .int .i64 (up : Nat), .int .i64 (down : Nat)] W (AddF T v F (addS l key up down) W)))
    (CO : Hid (∀ v l F (key : Nat) W, key < 4294967296 → T W v l F → Calls Try.prog 17 #[v, .int .u32 key] W (Tells (.tuple #[.int .i64 (ofG Cnt.up l key), .int .i64 (ofG Cnt.down l key)]) W)))
    (CS : Hid (∀ v l F W, T W v l F → Calls Try.prog 18 #[v] W (Tells (.tuple #[.int .i64 (sumG Cnt.up l), .int .i64 (sumG Cnt.down l)]) W)))
    (CL : Hid (∀ W, Calls Try.prog 19 #[] W (Tells (.bool true) W))) :
    Calls Try.prog 6 #[v] w (Tells (.bool true) w) := by
  have HV := Go.Lib.hid hv
  have HF := Go.Lib.hid HF0
  obtain ⟨A, c, rfl, hlc, hc⟩ := hv.form
  obtain ⟨n, hn⟩ : ∃ n, n = min l.length 40 := ⟨_, rfl⟩
  have hn1 : n ≤ l.length := by omega
  have hn2 : n ≤ 40 := by omega
  obtain ⟨xs, hxs⟩ : ∃ xs, xs = (l.take n).map plusOf := ⟨_, rfl⟩
  have hxl : xs.length = n := by rw [hxs, List.length_map, List.length_take]; omega
  have HX := Go.Lib.hid hxs
  have HXL := Go.Lib.hid hxl
  clear hv HF0 hxs hxl
  have hcase : (40 < l.length ∧ n = 40) ∨ (l.length ≤ 40 ∧ n = l.length) := by omega
  rcases hcase with ⟨h40, rfl⟩ | ⟨h40, hnl⟩
  · have d0 : decide ((40 : Int) < (l.length : Int)) = true := by simp; omega
    clear hn
    go_enter Try.func6, Try.ntmps6
    go_wp2_with (first
      | (go_at_call 8; have h1 := T1.out; refine (CN.out _).mono ?_; rintro e w2 ⟨u, G, rfl, hT2, hG2, hb2⟩; have T2 := Go.Lib.hid hT2; have B2 := Go.Lib.hid hb2; have G2 := Go.Lib.hid hG2; clear hT2 hb2 hG2)
      | (go_at_call 8; refine (CN.out _).mono ?_; rintro e w1 ⟨t, F, rfl, hT1, hF1, hb1⟩; have T1 := Go.Lib.hid hT1; have B1 := Go.Lib.hid hb1; have F1 := Go.Lib.hid hF1; clear hT1 hb1 hF1))
    have hP : Pair T w t u (accA (xs.take 0)) (accA (xs.reverse.take 0)) w2 :=
      ⟨F, G, HF.out.below T1.out B2.out, T2.out, fun k hf hg => by have := HF.out.lt T1.out hf; have := G2.out k hg; omega, F1.out, fun k hg => Nat.le_trans B1.out.size (G2.out k hg)⟩
    have hBw2 : Below w.heap.size w w2 := B1.out.trans (B2.out.mono B1.out.size)
    have HP := Go.Lib.hid hP
    clear hP
    go_loopw [6] (fun v6 wr => ∃ i : Nat, i ≤ 40 ∧ v6 = .int .i64 i ∧ Hid (Pair T w t u (accA (xs.take i)) (accA (xs.reverse.take i)) wr) ∧ Below w.heap.size w wr) (fun v6 _ => 40 - (intOf v6).toNat)
    case atStart => exact ⟨0, by omega, rfl, HP, hBw2⟩
    case round =>
      obtain ⟨i, hi, rfl, hPr, hbw⟩ := hrel
      by_cases hlt : i < 40
      · obtain ⟨a, ha⟩ : ∃ a, l[i]? = some a := ⟨_, List.getElem?_eq_getElem (by omega)⟩
        obtain ⟨b, off, rfl, hbl, _, k1, k2, k3⟩ := (HV.out).at_ ha
        have j1 := (hbw.cell (p := ⟨b, off + i * 4 + 1, none⟩) hbl).trans k1
        have j2 := (hbw.cell (p := ⟨b, off + i * 4 + 2, none⟩) hbl).trans k2
        have j3 := (hbw.cell (p := ⟨b, off + i * 4 + 3, none⟩) hbl).trans k3
        have z0 : (0 : Int) ≤ (i : Int) := by omega
        have z1 : (i : Int) < (l.length : Int) := by omega
        have z2 : (i : Int) < 40 := by omega
        obtain ⟨mu, hmu, hmu2⟩ : ∃ mu : Nat, bits .and .i64 a.up 1023 = (mu : Int) ∧ mu = (a.up % 1024).toNat := ⟨_, (mask_nat a.up).1, rfl⟩
        obtain ⟨md, hmd, hmd2⟩ : ∃ md : Nat, bits .and .i64 a.down 1023 = (md : Int) ∧ md = (a.down % 1024).toNat := ⟨_, (mask_nat a.down).1, rfl⟩
        have hmu3 : mu ≤ 1023 := by rw [hmu2]; exact (mask_nat a.up).2
        have hmd3 : md ≤ 1023 := by rw [hmd2]; exact (mask_nat a.down).2
        have hxi : xs[i]? = some (a.key, mu, md) := by
          rw [HX.out, List.getElem?_map, List.getElem?_take, if_pos hlt, ha, hmu2, hmd2]; rfl
        have hst : accA (xs.take (i + 1)) = addS (accA (xs.take i)) a.key mu md := by rw [List.take_add_one, hxi]; exact accA_snoc _ _
        have hln : (accA (xs.take i)).length ≤ 2000 := Nat.le_trans (acc_len _) (by rw [List.length_take]; omega)
        have hsm := plus_small HX.out
        have hun := under_forty (ys := xs.take i) (fun x hx => hsm x (List.mem_of_mem_take hx)) (by rw [List.length_take]; omega)
        have C1 := Go.Lib.hid (pair_call1 HF.out (Pair.below HF.out hPr.out (Go.RowKit.Below.drew (Below.refl _ wr))) (Nat.le_trans hbw.size (Nat.le_refl _)) (fun F' hT => CA.out t _ F' a.key mu md wr.drew ((HV.out).2 a (List.mem_of_getElem? ha)).1 hT (by omega) (by omega) hln hun))
        rw [← hst] at C1
        obtain ⟨key, hkey⟩ : ∃ key, key = a.key := ⟨_, rfl⟩
        rw [← hkey] at C1 j1
        have HA := Go.Lib.hid ha
        have HMU := Go.Lib.hid hmu2
        have HMD := Go.Lib.hid hmd2
        obtain ⟨a2, ha2⟩ : ∃ a2, l[39 - i]? = some a2 := ⟨_, List.getElem?_eq_getElem (by omega)⟩
        obtain ⟨b9, off9, e9, _, _, p1, p2, p3⟩ := (HV.out).at_ ha2
        injection e9 with e9
        injection e9 with e9 e10
        subst e9 e10
        have q1 := (hbw.cell (p := ⟨b, off + (39 - i) * 4 + 1, none⟩) hbl).trans p1
        have q2 := (hbw.cell (p := ⟨b, off + (39 - i) * 4 + 2, none⟩) hbl).trans p2
        have q3 := (hbw.cell (p := ⟨b, off + (39 - i) * 4 + 3, none⟩) hbl).trans p3
        obtain ⟨nu, hnu, hnu2⟩ : ∃ nu : Nat, bits .and .i64 a2.up 1023 = (nu : Int) ∧ nu = (a2.up % 1024).toNat := ⟨_, (mask_nat a2.up).1, rfl⟩
        obtain ⟨nd, hnd, hnd2⟩ : ∃ nd : Nat, bits .and .i64 a2.down 1023 = (nd : Int) ∧ nd = (a2.down % 1024).toNat := ⟨_, (mask_nat a2.down).1, rfl⟩
        have hnu3 : nu ≤ 1023 := by rw [hnu2]; exact (mask_nat a2.up).2
        have hnd3 : nd ≤ 1023 := by rw [hnd2]; exact (mask_nat a2.down).2
        have hxl40 := HXL.out
        have hxi2 : xs.reverse[i]? = some (a2.key, nu, nd) := by
          rw [List.getElem?_reverse (by omega), hxl40, HX.out, List.getElem?_map, List.getElem?_take, if_pos (by omega), show 40 - 1 - i = 39 - i by omega, ha2, hnu2, hnd2]; rfl
        have hst2 : accA (xs.reverse.take (i + 1)) = addS (accA (xs.reverse.take i)) a2.key nu nd := by rw [List.take_add_one, hxi2]; exact accA_snoc _ _
        have hln2 : (accA (xs.reverse.take i)).length ≤ 2000 := Nat.le_trans (acc_len _) (by rw [List.length_take]; omega)
        have hun2 := under_forty (ys := xs.reverse.take i) (fun x hx => hsm x (List.mem_reverse.1 (List.mem_of_mem_take hx))) (by rw [List.length_take]; omega)
        have hbs := hbw.size
        have C2 := Go.Lib.hid (fun (W1 : World) (hp : Pair T w t u (accA (xs.take (i + 1))) (accA (xs.reverse.take i)) W1) (hs : w.heap.size ≤ W1.heap.size) => pair_call2 HF.out (Pair.below HF.out hp (Go.RowKit.Below.drew (Below.refl _ W1))) hs (fun G' hT => CA.out u _ G' a2.key nu nd W1.drew ((HV.out).2 a2 (List.mem_of_getElem? ha2)).1 hT (by omega) (by omega) hln2 hun2))
        rw [← hst2] at C2
        obtain ⟨key2, hkey2⟩ : ∃ key2, key2 = a2.key := ⟨_, rfl⟩
        rw [← hkey2] at C2 q1
        have HQ := Go.Lib.hid (fun (W : World) (h : Below w.heap.size wr W) => (⟨(h.cell (p := ⟨b, off + (39 - i) * 4 + 1, none⟩) hbl).trans q1, (h.cell (p := ⟨b, off + (39 - i) * 4 + 2, none⟩) hbl).trans q2, (h.cell (p := ⟨b, off + (39 - i) * 4 + 3, none⟩) hbl).trans q3⟩ : W.cell? ⟨b, off + (39 - i) * 4 + 1, none⟩ = some (.int .u32 key2) ∧ W.cell? ⟨b, off + (39 - i) * 4 + 2, none⟩ = some (.int .i64 a2.up) ∧ W.cell? ⟨b, off + (39 - i) * 4 + 3, none⟩ = some (.int .i64 a2.down)))
        have y1 : IntKind.i64.wrap ((39 : Int) - (i : Int)) = ((39 - i : Nat) : Int) := by rw [IntKind.wrap_i64]; omega
        have y2 : (0 : Int) ≤ ((39 - i : Nat) : Int) := by omega
        have y3 : ((39 - i : Nat) : Int) < (l.length : Int) := by omega
        clear hmu2 hmd2 hxi hst ha hkey k1 k2 k3 hnu2 hnd2 hxi2 hst2 ha2 hkey2 p1 p2 p3 q1 q2 q3 hun hun2 hsm hln hln2 hxl40
        go_wp2
        go_region_held3 (fun w' => w'.cell? ⟨b, off + i * 4 + 1, none⟩ = some (.int .u32 key) ∧ w'.cell? ⟨b, off + i * 4 + 2, none⟩ = some (.int .i64 a.up) ∧ w'.cell? ⟨b, off + i * 4 + 3, none⟩ = some (.int .i64 a.down)) (first | exact ⟨j1, j2, j3⟩ | exact HS1.out)
          (first
            | (go_at_call 12
               refine (C1.out).mono ?_
               rintro e W1 ⟨rfl, hP1, hb1⟩
               have HP1 := Go.Lib.hid hP1
               have HB1 := Go.Lib.hid hb1
               have HS1 := Go.Lib.hid (⟨(hb1.cell (p := ⟨b, off + i * 4 + 1, none⟩) hbl).trans j1, (hb1.cell (p := ⟨b, off + i * 4 + 2, none⟩) hbl).trans j2, (hb1.cell (p := ⟨b, off + i * 4 + 3, none⟩) hbl).trans j3⟩ : W1.cell? ⟨b, off + i * 4 + 1, none⟩ = some (.int .u32 key) ∧ W1.cell? ⟨b, off + i * 4 + 2, none⟩ = some (.int .i64 a.up) ∧ W1.cell? ⟨b, off + i * 4 + 3, none⟩ = some (.int .i64 a.down))
               clear hP1 hb1))
        go_wp2
        have hbW : Below w.heap.size wr W1 := Go.RowKit.Below.trans ((Below.refl _ wr).drew) HB1.out
        obtain ⟨r1, r2, r3⟩ := HQ.out W1 hbW
        have HB9 := Go.Lib.hid hbW
        go_region_held3 (fun w' => w'.cell? ⟨b, off + (39 - i) * 4 + 1, none⟩ = some (.int .u32 key2) ∧ w'.cell? ⟨b, off + (39 - i) * 4 + 2, none⟩ = some (.int .i64 a2.up) ∧ w'.cell? ⟨b, off + (39 - i) * 4 + 3, none⟩ = some (.int .i64 a2.down)) (first | exact ⟨r1, r2, r3⟩ | exact HS2.out)
          (first
            | (go_at_call 12
               refine (C2.out W1 HP1.out (Nat.le_trans hbs HB9.out.size)).mono ?_
               rintro e W2 ⟨rfl, hP2, hb2⟩
               have HP2 := Go.Lib.hid hP2
               have HB2 := Go.Lib.hid (Go.RowKit.Below.trans HB9.out (Go.RowKit.Below.trans ((Below.refl _ W1).drew) hb2))
               have HS2 := Go.Lib.hid (HQ.out W2 HB2.out)
               clear hP2 hb2))
        all_goals go_wp2
        all_goals go_roundw
        case rel => exact ⟨i + 1, by omega, by go_num, HP2, hbw.trans HB2.out⟩
        case measure => simp [intOf]; omega
      · have hi40 : i = 40 := by omega
        have e1 : xs.take i = xs := List.take_of_length_le (by rw [HXL.out]; omega)
        have e2 : xs.reverse.take i = xs.reverse := List.take_of_length_le (by rw [List.length_reverse, HXL.out]; omega)
        have hP9 := hPr.out
        rw [e1, e2] at hP9
        have HP9 := Go.Lib.hid hP9
        have O1 := Go.Lib.hid (fun (key : Nat) (hk32 : key < 4294967296) (W : World) (hp : Pair T w t u (accA xs) (accA xs.reverse) W) => (show Calls Try.prog 17 #[t, .int .u32 key] W (Tells (.tuple #[.int .i64 (ofG Cnt.up (accA xs) key), .int .i64 (ofG Cnt.down (accA xs) key)]) W) from let ⟨F', _, h1, _⟩ := hp; CO.out t _ F' key W hk32 h1))
        have O2 := Go.Lib.hid (fun (key : Nat) (hk32 : key < 4294967296) (W : World) (hp : Pair T w t u (accA xs) (accA xs.reverse) W) => (show Calls Try.prog 17 #[u, .int .u32 key] W (Tells (.tuple #[.int .i64 (ofG Cnt.up (accA xs) key), .int .i64 (ofG Cnt.down (accA xs) key)]) W) from by
          obtain ⟨_, G', _, h2, _⟩ := hp
          have h := CO.out u _ G' key W hk32 h2
          rwa [(acc_rev xs key).1, (acc_rev xs key).2.1] at h))
        have S1 := Go.Lib.hid (fun (W : World) (hp : Pair T w t u (accA xs) (accA xs.reverse) W) => (show Calls Try.prog 18 #[t] W (Tells (.tuple #[.int .i64 (sumG Cnt.up (accA xs)), .int .i64 (sumG Cnt.down (accA xs))]) W) from let ⟨F', _, h1, _⟩ := hp; CS.out t _ F' W h1))
        have S2 := Go.Lib.hid (fun (W : World) (hp : Pair T w t u (accA xs) (accA xs.reverse) W) => (show Calls Try.prog 18 #[u] W (Tells (.tuple #[.int .i64 (sumG Cnt.up (accA xs)), .int .i64 (sumG Cnt.down (accA xs))]) W) from by
          obtain ⟨_, G', _, h2, _⟩ := hp
          have h := CS.out u _ G' W h2
          rwa [(acc_rev xs 0).2.2.1, (acc_rev xs 0).2.2.2] at h))
        clear hPr hP9 e1 e2 hi40
        go_wp2
        go_loopw [8] (fun v8 w5 => ∃ j : Nat, j ≤ 40 ∧ v8 = .int .i64 j ∧ Hid (Pair T w t u (accA xs) (accA xs.reverse) w5) ∧ Below w.heap.size w w5) (fun v8 _ => 40 - (intOf v8).toNat)
        case atStart => exact ⟨0, by omega, rfl, HP9, hbw⟩
        case round =>
          obtain ⟨j, hj, rfl, hPj, hbj⟩ := hrel
          by_cases hlj : j < 40
          · obtain ⟨a, ha⟩ : ∃ a, l[j]? = some a := ⟨_, List.getElem?_eq_getElem (by omega)⟩
            obtain ⟨b, off, rfl, hbl, _, k1, _, _⟩ := (HV.out).at_ ha
            have HK := Go.Lib.hid (fun (W : World) (h : Below w.heap.size w W) => (h.cell (p := ⟨b, off + j * 4 + 1, none⟩) hbl).trans k1)
            have j1 := HK.out _ hbj
            have z0 : (0 : Int) ≤ (j : Int) := by omega
            have z1 : (j : Int) < (l.length : Int) := by omega
            have z2 : (j : Int) < 40 := by omega
            obtain ⟨key, hkey⟩ : ∃ key, key = a.key := ⟨_, rfl⟩
            rw [← hkey] at j1 HK
            have O1k := Go.Lib.hid (O1.out key (by rw [hkey]; exact ((HV.out).2 a (List.mem_of_getElem? ha)).1))
            have O2k := Go.Lib.hid (O2.out key (by rw [hkey]; exact ((HV.out).2 a (List.mem_of_getElem? ha)).1))
            generalize ofG Cnt.up (accA xs) key = U at O1k O2k
            generalize ofG Cnt.down (accA xs) key = D at O1k O2k
            clear ha hkey k1
            go_wp2_with (first
              | (go_at_call 17; have p8 := P8.out; refine (O2k.out _ p8).mono ?_; rintro e w9 ⟨rfl, hb9⟩; have P9 := Go.Lib.hid (Pair.below HF.out p8 hb9); have B9 := Go.Lib.hid (B8.out.trans (hb9.mono B8.out.size)))
              | (go_at_call 17; refine (O1k.out _ hPj.out).mono ?_; rintro e w8 ⟨rfl, hb8⟩; have P8 := Go.Lib.hid (Pair.below HF.out hPj.out hb8); have B8 := Go.Lib.hid (hbj.trans (hb8.mono hbj.size)); have j8 := HK.out _ B8.out))
            go_roundw
            case rel => exact ⟨j + 1, by omega, by go_num, P9, B9.out⟩
            case measure => simp [intOf]; omega
          · generalize sumG Cnt.up (accA xs) = U at S1 S2
            generalize sumG Cnt.down (accA xs) = D at S1 S2
            go_wp2_with (first
              | (go_at_call 18; have p8 := P8.out; refine (S2.out _ p8).mono ?_; rintro e w9 ⟨rfl, hb9⟩; have B9 := Go.Lib.hid (B8.out.trans (hb9.mono B8.out.size)))
              | (go_at_call 18; refine (S1.out _ hPj.out).mono ?_; rintro e w8 ⟨rfl, hb8⟩; have P8 := Go.Lib.hid (Pair.below HF.out hPj.out hb8); have B8 := Go.Lib.hid (hbj.trans (hb8.mono hbj.size)))
              | (go_at_call 19; refine (CL.out _).mono ?_; rintro e w10 ⟨rfl, hb10⟩; have B10 := Go.Lib.hid (B9.out.trans (hb10.mono B9.out.size))))
            go_ret
            exact ⟨rfl, B10.out⟩
  · have d0 : decide ((40 : Int) < (l.length : Int)) = false := by simp; omega
    obtain rfl : n = l.length := hnl
    have hlz := HXL.out
    clear hn
    go_enter Try.func6, Try.ntmps6
    go_wp2_with (first
      | (go_at_call 8; have h1 := T1.out; refine (CN.out _).mono ?_; rintro e w2 ⟨u, G, rfl, hT2, hG2, hb2⟩; have T2 := Go.Lib.hid hT2; have B2 := Go.Lib.hid hb2; have G2 := Go.Lib.hid hG2; clear hT2 hb2 hG2)
      | (go_at_call 8; refine (CN.out _).mono ?_; rintro e w1 ⟨t, F, rfl, hT1, hF1, hb1⟩; have T1 := Go.Lib.hid hT1; have B1 := Go.Lib.hid hb1; have F1 := Go.Lib.hid hF1; clear hT1 hb1 hF1))
    have hP : Pair T w t u (accA (xs.take 0)) (accA (xs.reverse.take 0)) w2 :=
      ⟨F, G, HF.out.below T1.out B2.out, T2.out, fun k hf hg => by have := HF.out.lt T1.out hf; have := G2.out k hg; omega, F1.out, fun k hg => Nat.le_trans B1.out.size (G2.out k hg)⟩
    have hBw2 : Below w.heap.size w w2 := B1.out.trans (B2.out.mono B1.out.size)
    have HP := Go.Lib.hid hP
    clear hP
    go_loopw [6] (fun v6 wr => ∃ i : Nat, i ≤ l.length ∧ v6 = .int .i64 i ∧ Hid (Pair T w t u (accA (xs.take i)) (accA (xs.reverse.take i)) wr) ∧ Below w.heap.size w wr) (fun v6 _ => l.length - (intOf v6).toNat)
    case atStart => exact ⟨0, by omega, rfl, HP, hBw2⟩
    case round =>
      obtain ⟨i, hi, rfl, hPr, hbw⟩ := hrel
      by_cases hlt : i < l.length
      · obtain ⟨a, ha⟩ : ∃ a, l[i]? = some a := ⟨_, List.getElem?_eq_getElem (by omega)⟩
        obtain ⟨b, off, rfl, hbl, _, k1, k2, k3⟩ := (HV.out).at_ ha
        have j1 := (hbw.cell (p := ⟨b, off + i * 4 + 1, none⟩) hbl).trans k1
        have j2 := (hbw.cell (p := ⟨b, off + i * 4 + 2, none⟩) hbl).trans k2
        have j3 := (hbw.cell (p := ⟨b, off + i * 4 + 3, none⟩) hbl).trans k3
        have z0 : (0 : Int) ≤ (i : Int) := by omega
        have z1 : (i : Int) < (l.length : Int) := by omega
        have z2 : (i : Int) < (l.length : Int) := by omega
        obtain ⟨mu, hmu, hmu2⟩ : ∃ mu : Nat, bits .and .i64 a.up 1023 = (mu : Int) ∧ mu = (a.up % 1024).toNat := ⟨_, (mask_nat a.up).1, rfl⟩
        obtain ⟨md, hmd, hmd2⟩ : ∃ md : Nat, bits .and .i64 a.down 1023 = (md : Int) ∧ md = (a.down % 1024).toNat := ⟨_, (mask_nat a.down).1, rfl⟩
        have hmu3 : mu ≤ 1023 := by rw [hmu2]; exact (mask_nat a.up).2
        have hmd3 : md ≤ 1023 := by rw [hmd2]; exact (mask_nat a.down).2
        have hxi : xs[i]? = some (a.key, mu, md) := by
          rw [HX.out, List.getElem?_map, List.getElem?_take, if_pos hlt, ha, hmu2, hmd2]; rfl
        have hst : accA (xs.take (i + 1)) = addS (accA (xs.take i)) a.key mu md := by rw [List.take_add_one, hxi]; exact accA_snoc _ _
        have hln : (accA (xs.take i)).length ≤ 2000 := Nat.le_trans (acc_len _) (by rw [List.length_take]; omega)
        have hsm := plus_small HX.out
        have hun := under_forty (ys := xs.take i) (fun x hx => hsm x (List.mem_of_mem_take hx)) (by rw [List.length_take]; omega)
        have C1 := Go.Lib.hid (pair_call1 HF.out (Pair.below HF.out hPr.out (Go.RowKit.Below.drew (Below.refl _ wr))) (Nat.le_trans hbw.size (Nat.le_refl _)) (fun F' hT => CA.out t _ F' a.key mu md wr.drew ((HV.out).2 a (List.mem_of_getElem? ha)).1 hT (by omega) (by omega) hln hun))
        rw [← hst] at C1
        obtain ⟨key, hkey⟩ : ∃ key, key = a.key := ⟨_, rfl⟩
        rw [← hkey] at C1 j1
        have HA := Go.Lib.hid ha
        have HMU := Go.Lib.hid hmu2
        have HMD := Go.Lib.hid hmd2
        obtain ⟨a2, ha2⟩ : ∃ a2, l[l.length - 1 - i]? = some a2 := ⟨_, List.getElem?_eq_getElem (by omega)⟩
        obtain ⟨b9, off9, e9, _, _, p1, p2, p3⟩ := (HV.out).at_ ha2
        injection e9 with e9
        injection e9 with e9 e10
        subst e9 e10
        have q1 := (hbw.cell (p := ⟨b, off + (l.length - 1 - i) * 4 + 1, none⟩) hbl).trans p1
        have q2 := (hbw.cell (p := ⟨b, off + (l.length - 1 - i) * 4 + 2, none⟩) hbl).trans p2
        have q3 := (hbw.cell (p := ⟨b, off + (l.length - 1 - i) * 4 + 3, none⟩) hbl).trans p3
        obtain ⟨nu, hnu, hnu2⟩ : ∃ nu : Nat, bits .and .i64 a2.up 1023 = (nu : Int) ∧ nu = (a2.up % 1024).toNat := ⟨_, (mask_nat a2.up).1, rfl⟩
        obtain ⟨nd, hnd, hnd2⟩ : ∃ nd : Nat, bits .and .i64 a2.down 1023 = (nd : Int) ∧ nd = (a2.down % 1024).toNat := ⟨_, (mask_nat a2.down).1, rfl⟩
        have hnu3 : nu ≤ 1023 := by rw [hnu2]; exact (mask_nat a2.up).2
        have hnd3 : nd ≤ 1023 := by rw [hnd2]; exact (mask_nat a2.down).2
        have hxl40 := HXL.out
        have hxi2 : xs.reverse[i]? = some (a2.key, nu, nd) := by
          rw [List.getElem?_reverse (by omega), hxl40, HX.out, List.getElem?_map, List.getElem?_take, if_pos (by omega), ha2, hnu2, hnd2]; rfl
        have hst2 : accA (xs.reverse.take (i + 1)) = addS (accA (xs.reverse.take i)) a2.key nu nd := by rw [List.take_add_one, hxi2]; exact accA_snoc _ _
        have hln2 : (accA (xs.reverse.take i)).length ≤ 2000 := Nat.le_trans (acc_len _) (by rw [List.length_take]; omega)
        have hun2 := under_forty (ys := xs.reverse.take i) (fun x hx => hsm x (List.mem_reverse.1 (List.mem_of_mem_take hx))) (by rw [List.length_take]; omega)
        have hbs := hbw.size
        have C2 := Go.Lib.hid (fun (W1 : World) (hp : Pair T w t u (accA (xs.take (i + 1))) (accA (xs.reverse.take i)) W1) (hs : w.heap.size ≤ W1.heap.size) => pair_call2 HF.out (Pair.below HF.out hp (Go.RowKit.Below.drew (Below.refl _ W1))) hs (fun G' hT => CA.out u _ G' a2.key nu nd W1.drew ((HV.out).2 a2 (List.mem_of_getElem? ha2)).1 hT (by omega) (by omega) hln2 hun2))
        rw [← hst2] at C2
        obtain ⟨key2, hkey2⟩ : ∃ key2, key2 = a2.key := ⟨_, rfl⟩
        rw [← hkey2] at C2 q1
        have HQ := Go.Lib.hid (fun (W : World) (h : Below w.heap.size wr W) => (⟨(h.cell (p := ⟨b, off + (l.length - 1 - i) * 4 + 1, none⟩) hbl).trans q1, (h.cell (p := ⟨b, off + (l.length - 1 - i) * 4 + 2, none⟩) hbl).trans q2, (h.cell (p := ⟨b, off + (l.length - 1 - i) * 4 + 3, none⟩) hbl).trans q3⟩ : W.cell? ⟨b, off + (l.length - 1 - i) * 4 + 1, none⟩ = some (.int .u32 key2) ∧ W.cell? ⟨b, off + (l.length - 1 - i) * 4 + 2, none⟩ = some (.int .i64 a2.up) ∧ W.cell? ⟨b, off + (l.length - 1 - i) * 4 + 3, none⟩ = some (.int .i64 a2.down)))
        have y0 : IntKind.i64.wrap ((l.length : Int) - 1) = ((l.length - 1 : Nat) : Int) := by rw [IntKind.wrap_i64]; omega
        have y1 : IntKind.i64.wrap (((l.length - 1 : Nat) : Int) - (i : Int)) = ((l.length - 1 - i : Nat) : Int) := by rw [IntKind.wrap_i64]; omega
        have y2 : (0 : Int) ≤ ((l.length - 1 - i : Nat) : Int) := by omega
        have y3 : ((l.length - 1 - i : Nat) : Int) < (l.length : Int) := by omega
        clear hmu2 hmd2 hxi hst ha hkey k1 k2 k3 hnu2 hnd2 hxi2 hst2 ha2 hkey2 p1 p2 p3 q1 q2 q3 hun hun2 hsm hln hln2 hxl40
        go_wp2
        go_region_held3 (fun w' => w'.cell? ⟨b, off + i * 4 + 1, none⟩ = some (.int .u32 key) ∧ w'.cell? ⟨b, off + i * 4 + 2, none⟩ = some (.int .i64 a.up) ∧ w'.cell? ⟨b, off + i * 4 + 3, none⟩ = some (.int .i64 a.down)) (first | exact ⟨j1, j2, j3⟩ | exact HS1.out)
          (first
            | (go_at_call 12
               refine (C1.out).mono ?_
               rintro e W1 ⟨rfl, hP1, hb1⟩
               have HP1 := Go.Lib.hid hP1
               have HB1 := Go.Lib.hid hb1
               have HS1 := Go.Lib.hid (⟨(hb1.cell (p := ⟨b, off + i * 4 + 1, none⟩) hbl).trans j1, (hb1.cell (p := ⟨b, off + i * 4 + 2, none⟩) hbl).trans j2, (hb1.cell (p := ⟨b, off + i * 4 + 3, none⟩) hbl).trans j3⟩ : W1.cell? ⟨b, off + i * 4 + 1, none⟩ = some (.int .u32 key) ∧ W1.cell? ⟨b, off + i * 4 + 2, none⟩ = some (.int .i64 a.up) ∧ W1.cell? ⟨b, off + i * 4 + 3, none⟩ = some (.int .i64 a.down))
               clear hP1 hb1))
        go_wp2
        have hbW : Below w.heap.size wr W1 := Go.RowKit.Below.trans ((Below.refl _ wr).drew) HB1.out
        obtain ⟨r1, r2, r3⟩ := HQ.out W1 hbW
        have HB9 := Go.Lib.hid hbW
        go_region_held3 (fun w' => w'.cell? ⟨b, off + (l.length - 1 - i) * 4 + 1, none⟩ = some (.int .u32 key2) ∧ w'.cell? ⟨b, off + (l.length - 1 - i) * 4 + 2, none⟩ = some (.int .i64 a2.up) ∧ w'.cell? ⟨b, off + (l.length - 1 - i) * 4 + 3, none⟩ = some (.int .i64 a2.down)) (first | exact ⟨r1, r2, r3⟩ | exact HS2.out)
          (first
            | (go_at_call 12
               refine (C2.out W1 HP1.out (Nat.le_trans hbs HB9.out.size)).mono ?_
               rintro e W2 ⟨rfl, hP2, hb2⟩
               have HP2 := Go.Lib.hid hP2
               have HB2 := Go.Lib.hid (Go.RowKit.Below.trans HB9.out (Go.RowKit.Below.trans ((Below.refl _ W1).drew) hb2))
               have HS2 := Go.Lib.hid (HQ.out W2 HB2.out)
               clear hP2 hb2))
        all_goals go_wp2
        all_goals go_roundw
        case rel => exact ⟨i + 1, by omega, by go_num, HP2, hbw.trans HB2.out⟩
        case measure => simp [intOf]; omega
      · have hi40 : i = l.length := by omega
        have e1 : xs.take i = xs := List.take_of_length_le (by rw [HXL.out]; omega)
        have e2 : xs.reverse.take i = xs.reverse := List.take_of_length_le (by rw [List.length_reverse, HXL.out]; omega)
        have hP9 := hPr.out
        rw [e1, e2] at hP9
        have HP9 := Go.Lib.hid hP9
        have O1 := Go.Lib.hid (fun (key : Nat) (hk32 : key < 4294967296) (W : World) (hp : Pair T w t u (accA xs) (accA xs.reverse) W) => (show Calls Try.prog 17 #[t, .int .u32 key] W (Tells (.tuple #[.int .i64 (ofG Cnt.up (accA xs) key), .int .i64 (ofG Cnt.down (accA xs) key)]) W) from let ⟨F', _, h1, _⟩ := hp; CO.out t _ F' key W hk32 h1))
        have O2 := Go.Lib.hid (fun (key : Nat) (hk32 : key < 4294967296) (W : World) (hp : Pair T w t u (accA xs) (accA xs.reverse) W) => (show Calls Try.prog 17 #[u, .int .u32 key] W (Tells (.tuple #[.int .i64 (ofG Cnt.up (accA xs) key), .int .i64 (ofG Cnt.down (accA xs) key)]) W) from by
          obtain ⟨_, G', _, h2, _⟩ := hp
          have h := CO.out u _ G' key W hk32 h2
          rwa [(acc_rev xs key).1, (acc_rev xs key).2.1] at h))
        have S1 := Go.Lib.hid (fun (W : World) (hp : Pair T w t u (accA xs) (accA xs.reverse) W) => (show Calls Try.prog 18 #[t] W (Tells (.tuple #[.int .i64 (sumG Cnt.up (accA xs)), .int .i64 (sumG Cnt.down (accA xs))]) W) from let ⟨F', _, h1, _⟩ := hp; CS.out t _ F' W h1))
        have S2 := Go.Lib.hid (fun (W : World) (hp : Pair T w t u (accA xs) (accA xs.reverse) W) => (show Calls Try.prog 18 #[u] W (Tells (.tuple #[.int .i64 (sumG Cnt.up (accA xs)), .int .i64 (sumG Cnt.down (accA xs))]) W) from by
          obtain ⟨_, G', _, h2, _⟩ := hp
          have h := CS.out u _ G' W h2
          rwa [(acc_rev xs 0).2.2.1, (acc_rev xs 0).2.2.2] at h))
        clear hPr hP9 e1 e2 hi40
        go_wp2
        go_loopw [8] (fun v8 w5 => ∃ j : Nat, j ≤ l.length ∧ v8 = .int .i64 j ∧ Hid (Pair T w t u (accA xs) (accA xs.reverse) w5) ∧ Below w.heap.size w w5) (fun v8 _ => l.length - (intOf v8).toNat)
        case atStart => exact ⟨0, by omega, rfl, HP9, hbw⟩
        case round =>
          obtain ⟨j, hj, rfl, hPj, hbj⟩ := hrel
          by_cases hlj : j < l.length
          · obtain ⟨a, ha⟩ : ∃ a, l[j]? = some a := ⟨_, List.getElem?_eq_getElem (by omega)⟩
            obtain ⟨b, off, rfl, hbl, _, k1, _, _⟩ := (HV.out).at_ ha
            have HK := Go.Lib.hid (fun (W : World) (h : Below w.heap.size w W) => (h.cell (p := ⟨b, off + j * 4 + 1, none⟩) hbl).trans k1)
            have j1 := HK.out _ hbj
            have z0 : (0 : Int) ≤ (j : Int) := by omega
            have z1 : (j : Int) < (l.length : Int) := by omega
            have z2 : (j : Int) < (l.length : Int) := by omega
            obtain ⟨key, hkey⟩ : ∃ key, key = a.key := ⟨_, rfl⟩
            rw [← hkey] at j1 HK
            have O1k := Go.Lib.hid (O1.out key (by rw [hkey]; exact ((HV.out).2 a (List.mem_of_getElem? ha)).1))
            have O2k := Go.Lib.hid (O2.out key (by rw [hkey]; exact ((HV.out).2 a (List.mem_of_getElem? ha)).1))
            generalize ofG Cnt.up (accA xs) key = U at O1k O2k
            generalize ofG Cnt.down (accA xs) key = D at O1k O2k
            clear ha hkey k1
            go_wp2_with (first
              | (go_at_call 17; have p8 := P8.out; refine (O2k.out _ p8).mono ?_; rintro e w9 ⟨rfl, hb9⟩; have P9 := Go.Lib.hid (Pair.below HF.out p8 hb9); have B9 := Go.Lib.hid (B8.out.trans (hb9.mono B8.out.size)))
              | (go_at_call 17; refine (O1k.out _ hPj.out).mono ?_; rintro e w8 ⟨rfl, hb8⟩; have P8 := Go.Lib.hid (Pair.below HF.out hPj.out hb8); have B8 := Go.Lib.hid (hbj.trans (hb8.mono hbj.size)); have j8 := HK.out _ B8.out))
            go_roundw
            case rel => exact ⟨j + 1, by omega, by go_num, P9, B9.out⟩
            case measure => simp [intOf]; omega
          · generalize sumG Cnt.up (accA xs) = U at S1 S2
            generalize sumG Cnt.down (accA xs) = D at S1 S2
            go_wp2_with (first
              | (go_at_call 18; have p8 := P8.out; refine (S2.out _ p8).mono ?_; rintro e w9 ⟨rfl, hb9⟩; have B9 := Go.Lib.hid (B8.out.trans (hb9.mono B8.out.size)))
              | (go_at_call 18; refine (S1.out _ hPj.out).mono ?_; rintro e w8 ⟨rfl, hb8⟩; have P8 := Go.Lib.hid (Pair.below HF.out hPj.out hb8); have B8 := Go.Lib.hid (hbj.trans (hb8.mono hbj.size)))
              | (go_at_call 19; refine (CL.out _).mono ?_; rintro e w10 ⟨rfl, hb10⟩; have B10 := Go.Lib.hid (B9.out.trans (hb10.mono B9.out.size))))
            go_ret
            exact ⟨rfl, B10.out⟩
end Go.Proofs.Ytifaclbafmpiiaa.Tal
