/- TallyPlays' walk: a round by its pieces. -/
import Derived.Test.YtifaclbafmpiiaaPlayChk
import Derived.Test.YtifaclbafmpiiaaPlayTurn
import Derived.Test.YtifaclbafmpiiaaPlaySwap
import Derived.Test.YtifaclbafmpiiaaPlayCut
import Derived.Test.YtifaclbafmpiiaaPlayJoin
import Derived.Test.YtifaclbafmpiiaaPlayAdd
namespace Go.Proofs.Ytifaclbafmpiiaa.Tal
open Go.RowKit Mem Go.Maps

set_option maxRecDepth 1000000 in
set_option maxHeartbeats 16000000 in
theorem plays_walk (v : Value) (l : List Act) (k : Nat) (w : World) (hv : Acts w v l) (hk : k < 4294967296) :
    Calls Try.prog 3 #[v, .int .u32 k] w (Tells (.bool true) w) := by
  have CN := Go.Lib.hid (new_any w)
  have CL := Go.Lib.hid lives_any
  have HV := Go.Lib.hid hv
  obtain ⟨A0, c0, rfl, hlc, hc⟩ := hv.form
  clear hv
  go_enter Try.func3, Try.ntmps3
  go_wp2_with (go_at_call 8; refine (CN.out).mono ?_; rintro e w1 ⟨t, F1, rfl, hT1, hF1, hb1⟩; have HS1 := Go.Lib.hid (St.start hT1 hF1 hb1); clear hT1 hF1 hb1)
  go_loopw [6, 8] (fun v6 v8 wr => ∃ i : Nat, i ≤ 60 ∧ v8 = .int .i64 i ∧ ∃ A n c L F, v6 = .slice A n c ∧ n = L.length ∧ St w t i (.slice A n c) L F wr) (fun _ v8 _ => 60 - (intOf v8).toNat)
  case atStart => exact ⟨0, by omega, rfl, _, _, _, [], F1, rfl, rfl, HS1.out⟩
  case round =>
    obtain ⟨i, hi, rfl, A, n, c, L, F, rfl, rfl, hS⟩ := hrel
    have HS := Go.Lib.hid hS
    by_cases hlt : i < l.length
    · by_cases hl6 : i < 60
      · obtain ⟨a, ha⟩ : ∃ a, l[i]? = some a := ⟨_, List.getElem?_eq_getElem hlt⟩
        obtain ⟨b, off, rfl, hbl, k0, k1, k2, k3⟩ := (HV.out).at_ ha
        have hok := (HV.out).2 a (List.mem_of_getElem? ha)
        obtain ⟨kind, key, up, down⟩ := a
        have j0 := (hS.below.cell (p := ⟨b, off + i * 4, none⟩) hbl).trans k0
        have j1 := (hS.below.cell (p := ⟨b, off + i * 4 + 1, none⟩) hbl).trans k1
        have j2 := (hS.below.cell (p := ⟨b, off + i * 4 + 2, none⟩) hbl).trans k2
        have j3 := (hS.below.cell (p := ⟨b, off + i * 4 + 3, none⟩) hbl).trans k3
        have z0 : (0 : Int) ≤ (i : Int) := by omega
        have z1 : (i : Int) < (l.length : Int) := by omega
        have z2 : (i : Int) < 60 := by omega
        have hkey : key < 4294967296 := hok.1
        have HB0 := Go.Lib.hid (show Below wr.heap.size wr (wr.alloc (.cells #[.int .i64 kind, .int .u32 key, .int .i64 up, .int .i64 down] 28)) from (Below.refl _ wr).alloc (Nat.le_refl _) _)
        have CA := Go.Lib.hid (fun (W : World) (h : Cnts W (.slice A L.length c) L) => at_any (.slice A L.length c) L key W h)
        have HP := Go.Lib.hid (act_new hS kind key up down)
        have hi59 : i ≤ 59 := by omega
        simp only at j0 j1 j2 j3
        clear k0 k1 k2 k3 ha hok hbl hS hlt hl6
        by_cases hk1 : kind = 1
        · subst hk1
          cases hx : idx L key with
          | none =>
            rw [hx] at CA
            simp only [idxV] at CA
            go_upto_block 2 with (go_at_call 9; refine (CA.out _ (HS.out.cnts.keep HB0.out)).mono ?_; rintro e w2 ⟨rfl, rfl⟩)
            rename_i KK HKK
            refine wp_code (C := swC) (by kernel_rfl) ?_
            refine sw_turn0 _ _ _ _ _ _ _ _ _ _ _ _ _ _ _ _ _ _ _ _ _ _ _ _ _ _ _ _ _ _ _ _ _ _ _ _ _ _ _ _ _ _ _ _ _ _ _ _ _ _ _ _ _ _ _ _ _ _ _ _ _ _ _ _ _ _ _ _ _ _ _ _ _ _ _ _ _ _ _ _ _ _ _ _ _ _ _ _ _ _ _ _ _ _ _ _ _ _ _ _ _ _ _ _ _ _ _ _ _ _ _ _ _ _ _ _ _ _ _ _ _ _ _ _ _ _ _ _ _ _ _ _ _ _ _ _ _ _ _ _ _ _ _ _ _ _ _ _ _ _ _ _ _ _ _ _ _ _ _ _ _ _ _ _ _ _ _ _ _ _ _ _ _ _ _ _ _ _ _ _ _ _ _ _ _ _ _ _ _ _ _ _ _ _ _ _ _ _ _ _ _ _ _ _ _ _ _ _ _ _ _ _ _ _ _ _ _ _ _ _ _ _ _ _ _ _ _ _ _ _ _ _ HP.out.1 hkey HP.out.2.2.1 hx ?_
            intro y7 y11 y12 y13 y46 y47 y48 y49 y50 y51 y52 y53 y54 y55 y56 y57 y58 y59 y60 y61 y62 y63 y64 y65 y66 y67 y68 y69 y70 y71 y72 y73 y74 y75 y76 y77 y78 y79 y80 y81 y82 y83 y84 y85 y86 y87 y88 y89 y90 y91 y92 y93 y94 y95 y96 y97 y98 y99 y100 y101 y102 y103 y104 y105 y106 y107 y108 y109 y110 y111 y112 y113 y114 y115 y116 y117 y118 y119 y120 y121 y122 y123 y124 y125 y126 y127 y128 y129 y130 y131 y132 y133 A2 n2 c2 L2 F2 W2 hn2 hS2
            subst hn2
            have HS2 := Go.Lib.hid hS2
            refine HKK _ _ ?_
            refine wp_code (C := chkC) (by kernel_rfl) ?_
            refine chk_any _ _ _ _ _ _ _ _ _ _ _ _ _ _ _ _ _ _ _ _ _ _ _ _ _ _ _ _ _ _ _ _ _ _ _ _ _ _ _ _ _ _ _ _ _ _ _ _ _ _ _ _ _ _ _ _ _ _ _ _ _ _ _ _ _ _ _ _ _ _ _ _ _ _ _ _ _ _ _ _ _ _ _ _ _ _ _ _ _ _ _ _ _ _ _ _ _ _ _ _ _ _ _ _ _ _ _ _ _ _ _ _ _ _ _ _ _ _ _ _ _ _ _ _ _ _ _ _ _ _ _ _ _ _ _ _ _ _ _ _ _ _ _ _ _ _ _ _ _ _ _ _ _ _ _ _ _ _ _ _ _ _ _ _ _ _ _ _ _ _ _ _ _ _ _ _ _ _ _ _ _ _ _ _ _ _ _ _ _ _ _ _ _ _ _ _ _ _ _ _ _ _ _ _ _ _ _ _ _ _ _ _ _ _ _ _ _ _ _ _ _ _ _ k A2 c2 L2 F2 W2 _ hS2.tally hS2.cnts (by have := hS2.len; omega) hk ?_
            intro z4 z14 z15 z16 z17 z18 z19 z20 z21 z22 z23 z134 z135 z136 z137 z138 z139 z140 z141 z142 z143 z144 z145 z146 z147 z148 z149 z150 z151 z152 z153 z154 z155 z156 z157 z158 z159 z160 z161 z162 z163 z164 z165 z166 z167 z168 z169 z170 z171 z172 z173 z174 z175 z176 z177 z178 z179 z180 z181 z182 z183 z184 z185 z186 z187 z188 z189 z190 z191 z192 z193 z194 z195 z196 z197 z198 z199 z200 z201 z202 z203 z204 z205 z206 z207 z208 z209 z210 z211 z212 z213 z214 z215 z216 z217 z218 z219 z220 z221 z222 z223 W3 hb3
            have HS3 := Go.Lib.hid (HS2.out.keep hb3)
            clear hS2 hb3
            go_wp2
            go_roundw
            case rel => exact ⟨i + 1, by omega, by go_num, A2, L2.length, c2, L2, F2, rfl, rfl, HS3.out⟩
            case measure => simp [intOf]; omega
          | some x =>
            obtain ⟨r, hr, hrk⟩ := idx_at hx
            rw [hx] at CA
            simp only [idxV] at CA
            go_upto_block 2 with (go_at_call 9; refine (CA.out _ (HS.out.cnts.keep HB0.out)).mono ?_; rintro e w2 ⟨rfl, rfl⟩)
            rename_i KK HKK
            refine wp_code (C := swC) (by kernel_rfl) ?_
            refine sw_turn1 _ _ _ _ _ _ _ _ _ _ _ _ _ _ _ _ _ _ _ _ _ _ _ _ _ _ _ _ _ _ _ _ _ _ _ _ _ _ _ _ _ _ _ _ _ _ _ _ _ _ _ _ _ _ _ _ _ _ _ _ _ _ _ _ _ _ _ _ _ _ _ _ _ _ _ _ _ _ _ _ _ _ _ _ _ _ _ _ _ _ _ _ _ _ _ _ _ _ _ _ _ _ _ _ _ _ _ _ _ _ _ _ _ _ _ _ _ _ _ _ _ _ _ _ _ _ _ _ _ _ _ _ _ _ _ _ _ _ _ _ _ _ _ _ _ _ _ _ _ _ _ _ _ _ _ _ _ _ _ _ _ _ _ _ _ _ _ _ _ _ _ _ _ _ _ _ _ _ _ _ _ _ _ _ _ _ _ _ _ _ _ _ _ _ _ _ _ _ _ _ _ _ _ _ _ _ _ _ _ _ _ _ _ _ _ _ _ _ _ _ _ _ _ _ _ _ _ _ _ _ _ _ HP.out.1 hi59 hkey HP.out.2.2.1 x r hx hr hrk ?_
            intro y7 y11 y12 y13 y46 y47 y48 y49 y50 y51 y52 y53 y54 y55 y56 y57 y58 y59 y60 y61 y62 y63 y64 y65 y66 y67 y68 y69 y70 y71 y72 y73 y74 y75 y76 y77 y78 y79 y80 y81 y82 y83 y84 y85 y86 y87 y88 y89 y90 y91 y92 y93 y94 y95 y96 y97 y98 y99 y100 y101 y102 y103 y104 y105 y106 y107 y108 y109 y110 y111 y112 y113 y114 y115 y116 y117 y118 y119 y120 y121 y122 y123 y124 y125 y126 y127 y128 y129 y130 y131 y132 y133 A2 n2 c2 L2 F2 W2 hn2 hS2
            subst hn2
            have HS2 := Go.Lib.hid hS2
            refine HKK _ _ ?_
            refine wp_code (C := chkC) (by kernel_rfl) ?_
            refine chk_any _ _ _ _ _ _ _ _ _ _ _ _ _ _ _ _ _ _ _ _ _ _ _ _ _ _ _ _ _ _ _ _ _ _ _ _ _ _ _ _ _ _ _ _ _ _ _ _ _ _ _ _ _ _ _ _ _ _ _ _ _ _ _ _ _ _ _ _ _ _ _ _ _ _ _ _ _ _ _ _ _ _ _ _ _ _ _ _ _ _ _ _ _ _ _ _ _ _ _ _ _ _ _ _ _ _ _ _ _ _ _ _ _ _ _ _ _ _ _ _ _ _ _ _ _ _ _ _ _ _ _ _ _ _ _ _ _ _ _ _ _ _ _ _ _ _ _ _ _ _ _ _ _ _ _ _ _ _ _ _ _ _ _ _ _ _ _ _ _ _ _ _ _ _ _ _ _ _ _ _ _ _ _ _ _ _ _ _ _ _ _ _ _ _ _ _ _ _ _ _ _ _ _ _ _ _ _ _ _ _ _ _ _ _ _ _ _ _ _ _ _ _ _ k A2 c2 L2 F2 W2 _ hS2.tally hS2.cnts (by have := hS2.len; omega) hk ?_
            intro z4 z14 z15 z16 z17 z18 z19 z20 z21 z22 z23 z134 z135 z136 z137 z138 z139 z140 z141 z142 z143 z144 z145 z146 z147 z148 z149 z150 z151 z152 z153 z154 z155 z156 z157 z158 z159 z160 z161 z162 z163 z164 z165 z166 z167 z168 z169 z170 z171 z172 z173 z174 z175 z176 z177 z178 z179 z180 z181 z182 z183 z184 z185 z186 z187 z188 z189 z190 z191 z192 z193 z194 z195 z196 z197 z198 z199 z200 z201 z202 z203 z204 z205 z206 z207 z208 z209 z210 z211 z212 z213 z214 z215 z216 z217 z218 z219 z220 z221 z222 z223 W3 hb3
            have HS3 := Go.Lib.hid (HS2.out.keep hb3)
            clear hS2 hb3
            go_wp2
            go_roundw
            case rel => exact ⟨i + 1, by omega, by go_num, A2, L2.length, c2, L2, F2, rfl, rfl, HS3.out⟩
            case measure => simp [intOf]; omega
        · by_cases hk2 : kind = 2
          · subst hk2
            clear hk1
            cases hx : idx L key with
            | none =>
              rw [hx] at CA
              simp only [idxV] at CA
              go_upto_block 2 with (go_at_call 9; refine (CA.out _ (HS.out.cnts.keep HB0.out)).mono ?_; rintro e w2 ⟨rfl, rfl⟩)
              rename_i KK HKK
              refine wp_code (C := swC) (by kernel_rfl) ?_
              refine sw_drop0 _ _ _ _ _ _ _ _ _ _ _ _ _ _ _ _ _ _ _ _ _ _ _ _ _ _ _ _ _ _ _ _ _ _ _ _ _ _ _ _ _ _ _ _ _ _ _ _ _ _ _ _ _ _ _ _ _ _ _ _ _ _ _ _ _ _ _ _ _ _ _ _ _ _ _ _ _ _ _ _ _ _ _ _ _ _ _ _ _ _ _ _ _ _ _ _ _ _ _ _ _ _ _ _ _ _ _ _ _ _ _ _ _ _ _ _ _ _ _ _ _ _ _ _ _ _ _ _ _ _ _ _ _ _ _ _ _ _ _ _ _ _ _ _ _ _ _ _ _ _ _ _ _ _ _ _ _ _ _ _ _ _ _ _ _ _ _ _ _ _ _ _ _ _ _ _ _ _ _ _ _ _ _ _ _ _ _ _ _ _ _ _ _ _ _ _ _ _ _ _ _ _ _ _ _ _ _ _ _ _ _ _ _ _ _ _ _ _ _ _ _ _ _ _ _ _ _ _ _ _ _ _ HP.out.1 hkey HP.out.2.2.1 hx ?_
              intro y7 y11 y12 y13 y46 y47 y48 y49 y50 y51 y52 y53 y54 y55 y56 y57 y58 y59 y60 y61 y62 y63 y64 y65 y66 y67 y68 y69 y70 y71 y72 y73 y74 y75 y76 y77 y78 y79 y80 y81 y82 y83 y84 y85 y86 y87 y88 y89 y90 y91 y92 y93 y94 y95 y96 y97 y98 y99 y100 y101 y102 y103 y104 y105 y106 y107 y108 y109 y110 y111 y112 y113 y114 y115 y116 y117 y118 y119 y120 y121 y122 y123 y124 y125 y126 y127 y128 y129 y130 y131 y132 y133 A2 n2 c2 L2 F2 W2 hn2 hS2
              subst hn2
              have HS2 := Go.Lib.hid hS2
              refine HKK _ _ ?_
              refine wp_code (C := chkC) (by kernel_rfl) ?_
              refine chk_any _ _ _ _ _ _ _ _ _ _ _ _ _ _ _ _ _ _ _ _ _ _ _ _ _ _ _ _ _ _ _ _ _ _ _ _ _ _ _ _ _ _ _ _ _ _ _ _ _ _ _ _ _ _ _ _ _ _ _ _ _ _ _ _ _ _ _ _ _ _ _ _ _ _ _ _ _ _ _ _ _ _ _ _ _ _ _ _ _ _ _ _ _ _ _ _ _ _ _ _ _ _ _ _ _ _ _ _ _ _ _ _ _ _ _ _ _ _ _ _ _ _ _ _ _ _ _ _ _ _ _ _ _ _ _ _ _ _ _ _ _ _ _ _ _ _ _ _ _ _ _ _ _ _ _ _ _ _ _ _ _ _ _ _ _ _ _ _ _ _ _ _ _ _ _ _ _ _ _ _ _ _ _ _ _ _ _ _ _ _ _ _ _ _ _ _ _ _ _ _ _ _ _ _ _ _ _ _ _ _ _ _ _ _ _ _ _ _ _ _ _ _ _ k A2 c2 L2 F2 W2 _ hS2.tally hS2.cnts (by have := hS2.len; omega) hk ?_
              intro z4 z14 z15 z16 z17 z18 z19 z20 z21 z22 z23 z134 z135 z136 z137 z138 z139 z140 z141 z142 z143 z144 z145 z146 z147 z148 z149 z150 z151 z152 z153 z154 z155 z156 z157 z158 z159 z160 z161 z162 z163 z164 z165 z166 z167 z168 z169 z170 z171 z172 z173 z174 z175 z176 z177 z178 z179 z180 z181 z182 z183 z184 z185 z186 z187 z188 z189 z190 z191 z192 z193 z194 z195 z196 z197 z198 z199 z200 z201 z202 z203 z204 z205 z206 z207 z208 z209 z210 z211 z212 z213 z214 z215 z216 z217 z218 z219 z220 z221 z222 z223 W3 hb3
              have HS3 := Go.Lib.hid (HS2.out.keep hb3)
              clear hS2 hb3
              go_wp2
              go_roundw
              case rel => exact ⟨i + 1, by omega, by go_num, A2, L2.length, c2, L2, F2, rfl, rfl, HS3.out⟩
              case measure => simp [intOf]; omega
            | some x =>
              obtain ⟨r, hr, _⟩ := idx_at hx
              rw [hx] at CA
              simp only [idxV] at CA
              go_upto_block 2 with (go_at_call 9; refine (CA.out _ (HS.out.cnts.keep HB0.out)).mono ?_; rintro e w2 ⟨rfl, rfl⟩)
              rename_i KK HKK
              refine wp_code (C := swC) (by kernel_rfl) ?_
              refine sw_drop1 _ _ _ _ _ _ _ _ _ _ _ _ _ _ _ _ _ _ _ _ _ _ _ _ _ _ _ _ _ _ _ _ _ _ _ _ _ _ _ _ _ _ _ _ _ _ _ _ _ _ _ _ _ _ _ _ _ _ _ _ _ _ _ _ _ _ _ _ _ _ _ _ _ _ _ _ _ _ _ _ _ _ _ _ _ _ _ _ _ _ _ _ _ _ _ _ _ _ _ _ _ _ _ _ _ _ _ _ _ _ _ _ _ _ _ _ _ _ _ _ _ _ _ _ _ _ _ _ _ _ _ _ _ _ _ _ _ _ _ _ _ _ _ _ _ _ _ _ _ _ _ _ _ _ _ _ _ _ _ _ _ _ _ _ _ _ _ _ _ _ _ _ _ _ _ _ _ _ _ _ _ _ _ _ _ _ _ _ _ _ _ _ _ _ _ _ _ _ _ _ _ _ _ _ _ _ _ _ _ _ _ _ _ _ _ _ _ _ _ _ _ _ _ _ _ _ _ _ _ _ _ _ HP.out.1 hi59 hkey HP.out.2.2.1 x r hx hr ?_
              intro y7 y11 y12 y13 y46 y47 y48 y49 y50 y51 y52 y53 y54 y55 y56 y57 y58 y59 y60 y61 y62 y63 y64 y65 y66 y67 y68 y69 y70 y71 y72 y73 y74 y75 y76 y77 y78 y79 y80 y81 y82 y83 y84 y85 y86 y87 y88 y89 y90 y91 y92 y93 y94 y95 y96 y97 y98 y99 y100 y101 y102 y103 y104 y105 y106 y107 y108 y109 y110 y111 y112 y113 y114 y115 y116 y117 y118 y119 y120 y121 y122 y123 y124 y125 y126 y127 y128 y129 y130 y131 y132 y133 A2 n2 c2 L2 F2 W2 hn2 hS2
              subst hn2
              have HS2 := Go.Lib.hid hS2
              refine HKK _ _ ?_
              refine wp_code (C := chkC) (by kernel_rfl) ?_
              refine chk_any _ _ _ _ _ _ _ _ _ _ _ _ _ _ _ _ _ _ _ _ _ _ _ _ _ _ _ _ _ _ _ _ _ _ _ _ _ _ _ _ _ _ _ _ _ _ _ _ _ _ _ _ _ _ _ _ _ _ _ _ _ _ _ _ _ _ _ _ _ _ _ _ _ _ _ _ _ _ _ _ _ _ _ _ _ _ _ _ _ _ _ _ _ _ _ _ _ _ _ _ _ _ _ _ _ _ _ _ _ _ _ _ _ _ _ _ _ _ _ _ _ _ _ _ _ _ _ _ _ _ _ _ _ _ _ _ _ _ _ _ _ _ _ _ _ _ _ _ _ _ _ _ _ _ _ _ _ _ _ _ _ _ _ _ _ _ _ _ _ _ _ _ _ _ _ _ _ _ _ _ _ _ _ _ _ _ _ _ _ _ _ _ _ _ _ _ _ _ _ _ _ _ _ _ _ _ _ _ _ _ _ _ _ _ _ _ _ _ _ _ _ _ _ k A2 c2 L2 F2 W2 _ hS2.tally hS2.cnts (by have := hS2.len; omega) hk ?_
              intro z4 z14 z15 z16 z17 z18 z19 z20 z21 z22 z23 z134 z135 z136 z137 z138 z139 z140 z141 z142 z143 z144 z145 z146 z147 z148 z149 z150 z151 z152 z153 z154 z155 z156 z157 z158 z159 z160 z161 z162 z163 z164 z165 z166 z167 z168 z169 z170 z171 z172 z173 z174 z175 z176 z177 z178 z179 z180 z181 z182 z183 z184 z185 z186 z187 z188 z189 z190 z191 z192 z193 z194 z195 z196 z197 z198 z199 z200 z201 z202 z203 z204 z205 z206 z207 z208 z209 z210 z211 z212 z213 z214 z215 z216 z217 z218 z219 z220 z221 z222 z223 W3 hb3
              have HS3 := Go.Lib.hid (HS2.out.keep hb3)
              clear hS2 hb3
              go_wp2
              go_roundw
              case rel => exact ⟨i + 1, by omega, by go_num, A2, L2.length, c2, L2, F2, rfl, rfl, HS3.out⟩
              case measure => simp [intOf]; omega
          · generalize idxV (idx L key) = z at CA
            by_cases hk3 : kind = 3
            · subst hk3
              clear hk1 hk2
              by_cases hg : 0 ≤ up ∧ up ≤ 1073741824 ∧ 0 ≤ down ∧ down ≤ 1073741824
              · obtain ⟨un, rfl⟩ := Int.eq_ofNat_of_zero_le hg.1
                obtain ⟨dn, rfl⟩ := Int.eq_ofNat_of_zero_le hg.2.2.1
                go_upto_block 2 with (go_at_call 9; refine (CA.out _ (HS.out.cnts.keep HB0.out)).mono ?_; rintro e w2 ⟨rfl, rfl⟩)
                rename_i KK HKK
                refine wp_code (C := swC) (by kernel_rfl) ?_
                refine sw_join1 _ _ _ _ _ _ _ _ _ _ _ _ _ _ _ _ _ _ _ _ _ _ _ _ _ _ _ _ _ _ _ _ _ _ _ _ _ _ _ _ _ _ _ _ _ _ _ _ _ _ _ _ _ _ _ _ _ _ _ _ _ _ _ _ _ _ _ _ _ _ _ _ _ _ _ _ _ _ _ _ _ _ _ _ _ _ _ _ _ _ _ _ _ _ _ _ _ _ _ _ _ _ _ _ _ _ _ _ _ _ _ _ _ _ _ _ _ _ _ _ _ _ _ _ _ _ _ _ _ _ _ _ _ _ _ _ _ _ _ _ _ _ _ _ _ _ _ _ _ _ _ _ _ _ _ _ _ _ _ _ _ _ _ _ _ _ _ _ _ _ _ _ _ _ _ _ _ _ _ _ _ _ _ _ _ _ _ _ _ _ _ _ _ _ _ _ _ _ _ _ _ _ _ _ _ _ _ _ _ _ _ _ _ _ _ _ _ _ _ _ _ _ _ _ _ _ _ _ _ _ _ _ _ HP.out.1 hi59 HP.out.2.2.2.2.2 hkey HP.out.2.2.1 un dn HP.out.2.2.2.1 HP.out.2.2.2.2.1 (by omega) (by omega) ?_
                intro y7 y11 y12 y13 y46 y47 y48 y49 y50 y51 y52 y53 y54 y55 y56 y57 y58 y59 y60 y61 y62 y63 y64 y65 y66 y67 y68 y69 y70 y71 y72 y73 y74 y75 y76 y77 y78 y79 y80 y81 y82 y83 y84 y85 y86 y87 y88 y89 y90 y91 y92 y93 y94 y95 y96 y97 y98 y99 y100 y101 y102 y103 y104 y105 y106 y107 y108 y109 y110 y111 y112 y113 y114 y115 y116 y117 y118 y119 y120 y121 y122 y123 y124 y125 y126 y127 y128 y129 y130 y131 y132 y133 A2 n2 c2 L2 F2 W2 hn2 hS2
                subst hn2
                have HS2 := Go.Lib.hid hS2
                refine HKK _ _ ?_
                refine wp_code (C := chkC) (by kernel_rfl) ?_
                refine chk_any _ _ _ _ _ _ _ _ _ _ _ _ _ _ _ _ _ _ _ _ _ _ _ _ _ _ _ _ _ _ _ _ _ _ _ _ _ _ _ _ _ _ _ _ _ _ _ _ _ _ _ _ _ _ _ _ _ _ _ _ _ _ _ _ _ _ _ _ _ _ _ _ _ _ _ _ _ _ _ _ _ _ _ _ _ _ _ _ _ _ _ _ _ _ _ _ _ _ _ _ _ _ _ _ _ _ _ _ _ _ _ _ _ _ _ _ _ _ _ _ _ _ _ _ _ _ _ _ _ _ _ _ _ _ _ _ _ _ _ _ _ _ _ _ _ _ _ _ _ _ _ _ _ _ _ _ _ _ _ _ _ _ _ _ _ _ _ _ _ _ _ _ _ _ _ _ _ _ _ _ _ _ _ _ _ _ _ _ _ _ _ _ _ _ _ _ _ _ _ _ _ _ _ _ _ _ _ _ _ _ _ _ _ _ _ _ _ _ _ _ _ _ _ k A2 c2 L2 F2 W2 _ hS2.tally hS2.cnts (by have := hS2.len; omega) hk ?_
                intro z4 z14 z15 z16 z17 z18 z19 z20 z21 z22 z23 z134 z135 z136 z137 z138 z139 z140 z141 z142 z143 z144 z145 z146 z147 z148 z149 z150 z151 z152 z153 z154 z155 z156 z157 z158 z159 z160 z161 z162 z163 z164 z165 z166 z167 z168 z169 z170 z171 z172 z173 z174 z175 z176 z177 z178 z179 z180 z181 z182 z183 z184 z185 z186 z187 z188 z189 z190 z191 z192 z193 z194 z195 z196 z197 z198 z199 z200 z201 z202 z203 z204 z205 z206 z207 z208 z209 z210 z211 z212 z213 z214 z215 z216 z217 z218 z219 z220 z221 z222 z223 W3 hb3
                have HS3 := Go.Lib.hid (HS2.out.keep hb3)
                clear hS2 hb3
                go_wp2
                go_roundw
                case rel => exact ⟨i + 1, by omega, by go_num, A2, L2.length, c2, L2, F2, rfl, rfl, HS3.out⟩
                case measure => simp [intOf]; omega
              · have hbad : (decide (up < 0) || decide (down < 0) || decide (1073741824 < up) || decide (1073741824 < down)) = true := by
                  simp only [Bool.or_eq_true, decide_eq_true_eq]; omega
                go_upto_block 2 with (go_at_call 9; refine (CA.out _ (HS.out.cnts.keep HB0.out)).mono ?_; rintro e w2 ⟨rfl, rfl⟩)
                rename_i KK HKK
                refine wp_code (C := swC) (by kernel_rfl) ?_
                refine sw_join0 _ _ _ _ _ _ _ _ _ _ _ _ _ _ _ _ _ _ _ _ _ _ _ _ _ _ _ _ _ _ _ _ _ _ _ _ _ _ _ _ _ _ _ _ _ _ _ _ _ _ _ _ _ _ _ _ _ _ _ _ _ _ _ _ _ _ _ _ _ _ _ _ _ _ _ _ _ _ _ _ _ _ _ _ _ _ _ _ _ _ _ _ _ _ _ _ _ _ _ _ _ _ _ _ _ _ _ _ _ _ _ _ _ _ _ _ _ _ _ _ _ _ _ _ _ _ _ _ _ _ _ _ _ _ _ _ _ _ _ _ _ _ _ _ _ _ _ _ _ _ _ _ _ _ _ _ _ _ _ _ _ _ _ _ _ _ _ _ _ _ _ _ _ _ _ _ _ _ _ _ _ _ _ _ _ _ _ _ _ _ _ _ _ _ _ _ _ _ _ _ _ _ _ _ _ _ _ _ _ _ _ _ _ _ _ _ _ _ _ _ _ _ _ _ _ _ _ _ _ _ _ _ _ _ _ HP.out.1 HP.out.2.2.1 HP.out.2.2.2.1 HP.out.2.2.2.2.1 hbad ?_
                intro y7 y11 y12 y13 y46 y47 y48 y49 y50 y51 y52 y53 y54 y55 y56 y57 y58 y59 y60 y61 y62 y63 y64 y65 y66 y67 y68 y69 y70 y71 y72 y73 y74 y75 y76 y77 y78 y79 y80 y81 y82 y83 y84 y85 y86 y87 y88 y89 y90 y91 y92 y93 y94 y95 y96 y97 y98 y99 y100 y101 y102 y103 y104 y105 y106 y107 y108 y109 y110 y111 y112 y113 y114 y115 y116 y117 y118 y119 y120 y121 y122 y123 y124 y125 y126 y127 y128 y129 y130 y131 y132 y133 W3 hS3
                have HS3 := Go.Lib.hid hS3
                clear hS3
                go_wp2
                go_roundw
                case rel => exact ⟨i + 1, by omega, by go_num, A, L.length, c, L, F, rfl, rfl, HS3.out⟩
                case measure => simp [intOf]; omega
            · by_cases hg : 0 ≤ up ∧ up ≤ 1073741824 ∧ 0 ≤ down ∧ down ≤ 1073741824
              · obtain ⟨un, rfl⟩ := Int.eq_ofNat_of_zero_le hg.1
                obtain ⟨dn, rfl⟩ := Int.eq_ofNat_of_zero_le hg.2.2.1
                go_upto_block 2 with (go_at_call 9; refine (CA.out _ (HS.out.cnts.keep HB0.out)).mono ?_; rintro e w2 ⟨rfl, rfl⟩)
                rename_i KK HKK
                refine wp_code (C := swC) (by kernel_rfl) ?_
                refine sw_add1 _ _ _ _ _ _ _ _ _ _ _ _ _ _ _ _ _ _ _ _ _ _ _ _ _ _ _ _ _ _ _ _ _ _ _ _ _ _ _ _ _ _ _ _ _ _ _ _ _ _ _ _ _ _ _ _ _ _ _ _ _ _ _ _ _ _ _ _ _ _ _ _ _ _ _ _ _ _ _ _ _ _ _ _ _ _ _ _ _ _ _ _ _ _ _ _ _ _ _ _ _ _ _ _ _ _ _ _ _ _ _ _ _ _ _ _ _ _ _ _ _ _ _ _ _ _ _ _ _ _ _ _ _ _ _ _ _ _ _ _ _ _ _ _ _ _ _ _ _ _ _ _ _ _ _ _ _ _ _ _ _ _ _ _ _ _ _ _ _ _ _ _ _ _ _ _ _ _ _ _ _ _ _ _ _ _ _ _ _ _ _ _ _ _ _ _ _ _ _ _ _ _ _ _ _ _ _ _ _ _ _ _ _ _ _ _ _ _ _ _ _ _ _ _ _ _ _ _ _ _ _ _ _ HP.out.1 hi59 hkey HP.out.2.2.1 kind hk1 hk2 hk3 HP.out.2.1 un dn HP.out.2.2.2.1 HP.out.2.2.2.2.1 (by omega) (by omega) ?_
                intro y7 y11 y12 y13 y46 y47 y48 y49 y50 y51 y52 y53 y54 y55 y56 y57 y58 y59 y60 y61 y62 y63 y64 y65 y66 y67 y68 y69 y70 y71 y72 y73 y74 y75 y76 y77 y78 y79 y80 y81 y82 y83 y84 y85 y86 y87 y88 y89 y90 y91 y92 y93 y94 y95 y96 y97 y98 y99 y100 y101 y102 y103 y104 y105 y106 y107 y108 y109 y110 y111 y112 y113 y114 y115 y116 y117 y118 y119 y120 y121 y122 y123 y124 y125 y126 y127 y128 y129 y130 y131 y132 y133 A2 n2 c2 L2 F2 W2 hn2 hS2
                subst hn2
                have HS2 := Go.Lib.hid hS2
                refine HKK _ _ ?_
                refine wp_code (C := chkC) (by kernel_rfl) ?_
                refine chk_any _ _ _ _ _ _ _ _ _ _ _ _ _ _ _ _ _ _ _ _ _ _ _ _ _ _ _ _ _ _ _ _ _ _ _ _ _ _ _ _ _ _ _ _ _ _ _ _ _ _ _ _ _ _ _ _ _ _ _ _ _ _ _ _ _ _ _ _ _ _ _ _ _ _ _ _ _ _ _ _ _ _ _ _ _ _ _ _ _ _ _ _ _ _ _ _ _ _ _ _ _ _ _ _ _ _ _ _ _ _ _ _ _ _ _ _ _ _ _ _ _ _ _ _ _ _ _ _ _ _ _ _ _ _ _ _ _ _ _ _ _ _ _ _ _ _ _ _ _ _ _ _ _ _ _ _ _ _ _ _ _ _ _ _ _ _ _ _ _ _ _ _ _ _ _ _ _ _ _ _ _ _ _ _ _ _ _ _ _ _ _ _ _ _ _ _ _ _ _ _ _ _ _ _ _ _ _ _ _ _ _ _ _ _ _ _ _ _ _ _ _ _ _ k A2 c2 L2 F2 W2 _ hS2.tally hS2.cnts (by have := hS2.len; omega) hk ?_
                intro z4 z14 z15 z16 z17 z18 z19 z20 z21 z22 z23 z134 z135 z136 z137 z138 z139 z140 z141 z142 z143 z144 z145 z146 z147 z148 z149 z150 z151 z152 z153 z154 z155 z156 z157 z158 z159 z160 z161 z162 z163 z164 z165 z166 z167 z168 z169 z170 z171 z172 z173 z174 z175 z176 z177 z178 z179 z180 z181 z182 z183 z184 z185 z186 z187 z188 z189 z190 z191 z192 z193 z194 z195 z196 z197 z198 z199 z200 z201 z202 z203 z204 z205 z206 z207 z208 z209 z210 z211 z212 z213 z214 z215 z216 z217 z218 z219 z220 z221 z222 z223 W3 hb3
                have HS3 := Go.Lib.hid (HS2.out.keep hb3)
                clear hS2 hb3
                go_wp2
                go_roundw
                case rel => exact ⟨i + 1, by omega, by go_num, A2, L2.length, c2, L2, F2, rfl, rfl, HS3.out⟩
                case measure => simp [intOf]; omega
              · have hbad : (decide (up < 0) || decide (down < 0) || decide (1073741824 < up) || decide (1073741824 < down)) = true := by
                  simp only [Bool.or_eq_true, decide_eq_true_eq]; omega
                go_upto_block 2 with (go_at_call 9; refine (CA.out _ (HS.out.cnts.keep HB0.out)).mono ?_; rintro e w2 ⟨rfl, rfl⟩)
                rename_i KK HKK
                refine wp_code (C := swC) (by kernel_rfl) ?_
                refine sw_add0 _ _ _ _ _ _ _ _ _ _ _ _ _ _ _ _ _ _ _ _ _ _ _ _ _ _ _ _ _ _ _ _ _ _ _ _ _ _ _ _ _ _ _ _ _ _ _ _ _ _ _ _ _ _ _ _ _ _ _ _ _ _ _ _ _ _ _ _ _ _ _ _ _ _ _ _ _ _ _ _ _ _ _ _ _ _ _ _ _ _ _ _ _ _ _ _ _ _ _ _ _ _ _ _ _ _ _ _ _ _ _ _ _ _ _ _ _ _ _ _ _ _ _ _ _ _ _ _ _ _ _ _ _ _ _ _ _ _ _ _ _ _ _ _ _ _ _ _ _ _ _ _ _ _ _ _ _ _ _ _ _ _ _ _ _ _ _ _ _ _ _ _ _ _ _ _ _ _ _ _ _ _ _ _ _ _ _ _ _ _ _ _ _ _ _ _ _ _ _ _ _ _ _ _ _ _ _ _ _ _ _ _ _ _ _ _ _ _ _ _ _ _ _ _ _ _ _ _ _ _ _ _ _ HP.out.1 HP.out.2.2.1 kind hk1 hk2 hk3 HP.out.2.1 up down HP.out.2.2.2.1 HP.out.2.2.2.2.1 hbad ?_
                intro y7 y11 y12 y13 y46 y47 y48 y49 y50 y51 y52 y53 y54 y55 y56 y57 y58 y59 y60 y61 y62 y63 y64 y65 y66 y67 y68 y69 y70 y71 y72 y73 y74 y75 y76 y77 y78 y79 y80 y81 y82 y83 y84 y85 y86 y87 y88 y89 y90 y91 y92 y93 y94 y95 y96 y97 y98 y99 y100 y101 y102 y103 y104 y105 y106 y107 y108 y109 y110 y111 y112 y113 y114 y115 y116 y117 y118 y119 y120 y121 y122 y123 y124 y125 y126 y127 y128 y129 y130 y131 y132 y133 A2 n2 c2 L2 F2 W2 hn2 hS2
                subst hn2
                have HS2 := Go.Lib.hid hS2
                refine HKK _ _ ?_
                refine wp_code (C := chkC) (by kernel_rfl) ?_
                refine chk_any _ _ _ _ _ _ _ _ _ _ _ _ _ _ _ _ _ _ _ _ _ _ _ _ _ _ _ _ _ _ _ _ _ _ _ _ _ _ _ _ _ _ _ _ _ _ _ _ _ _ _ _ _ _ _ _ _ _ _ _ _ _ _ _ _ _ _ _ _ _ _ _ _ _ _ _ _ _ _ _ _ _ _ _ _ _ _ _ _ _ _ _ _ _ _ _ _ _ _ _ _ _ _ _ _ _ _ _ _ _ _ _ _ _ _ _ _ _ _ _ _ _ _ _ _ _ _ _ _ _ _ _ _ _ _ _ _ _ _ _ _ _ _ _ _ _ _ _ _ _ _ _ _ _ _ _ _ _ _ _ _ _ _ _ _ _ _ _ _ _ _ _ _ _ _ _ _ _ _ _ _ _ _ _ _ _ _ _ _ _ _ _ _ _ _ _ _ _ _ _ _ _ _ _ _ _ _ _ _ _ _ _ _ _ _ _ _ _ _ _ _ _ _ k A2 c2 L2 F2 W2 _ hS2.tally hS2.cnts (by have := hS2.len; omega) hk ?_
                intro z4 z14 z15 z16 z17 z18 z19 z20 z21 z22 z23 z134 z135 z136 z137 z138 z139 z140 z141 z142 z143 z144 z145 z146 z147 z148 z149 z150 z151 z152 z153 z154 z155 z156 z157 z158 z159 z160 z161 z162 z163 z164 z165 z166 z167 z168 z169 z170 z171 z172 z173 z174 z175 z176 z177 z178 z179 z180 z181 z182 z183 z184 z185 z186 z187 z188 z189 z190 z191 z192 z193 z194 z195 z196 z197 z198 z199 z200 z201 z202 z203 z204 z205 z206 z207 z208 z209 z210 z211 z212 z213 z214 z215 z216 z217 z218 z219 z220 z221 z222 z223 W3 hb3
                have HS3 := Go.Lib.hid (HS2.out.keep hb3)
                clear hS2 hb3
                go_wp2
                go_roundw
                case rel => exact ⟨i + 1, by omega, by go_num, A2, L2.length, c2, L2, F2, rfl, rfl, HS3.out⟩
                case measure => simp [intOf]; omega
      · obtain rfl : i = 60 := by omega
        have z1 : ((60 : Nat) : Int) < (l.length : Int) := by omega
        have HB := Go.Lib.hid hS.below
        clear hS
        go_wp2_with (go_at_call 19; refine (CL.out _).mono ?_; rintro e w2 ⟨rfl, hb2⟩)
        go_ret
        exact ⟨rfl, HB.out.trans (hb2.mono HB.out.size)⟩
    · have HB := Go.Lib.hid hS.below
      clear hS
      go_wp2_with (go_at_call 19; refine (CL.out _).mono ?_; rintro e w2 ⟨rfl, hb2⟩)
      go_ret
      exact ⟨rfl, HB.out.trans (hb2.mono HB.out.size)⟩
end Go.Proofs.Ytifaclbafmpiiaa.Tal
