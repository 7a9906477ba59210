/- path's Len and First. path's Good, of a good path. path's Text, of a path whose pieces have numbers. -/
import Derived.Test.YtcdbeljmniaofaaGreatDoorSegMem
import Derived.Test.YtcdbeljmniaofaaGreatDoorSegRefA
import Derived.Outline
import Derived.Test.YtcdbeljmniaofaaGreatDoorSetIs
import Derived.Test.YtcdbeljmniaofaaGreatDoorNumText

/- path's Len and First. -/
namespace Go.Proofs.YtcdbeljmniaofaaGreatDoor.Seg
open Go.RowKit Mem Rise Segm

/-- How long a path is. -/
def lenOne (s : Piece) : Nat := if s.1 = 1 then 1 else if s.1 = 2 then s.2.length else 0
def lenS (p : List Piece) : Nat := (p.map lenOne).sum
theorem lenS_take {p : List Piece} {i : Nat} {s : Piece} (h : p[i]? = some s) : lenS (p.take (i + 1)) = lenS (p.take i) + lenOne s := by
  unfold lenS
  rw [List.take_add_one, h]
  simp
theorem lenS_bulk (p : List Piece) : lenS p ≤ bulk p := by
  induction p with
  | nil => simp [lenS, bulk]
  | cons s p ih =>
    have h : lenOne s ≤ s.2.length + 1 := by unfold lenOne; split <;> (try split) <;> omega
    simp [lenS, bulk] at ih ⊢
    omega

set_option maxRecDepth 100000 in
set_option maxHeartbeats 4000000 in
theorem len_any (v : Value) (p : List Piece) (w : World) (hv : Segs w v p) (hbk : bulk p ≤ 100000) :
    Calls Tryz.prog 23 #[v] w (Tells (.int .i64 (lenS p)) w) := by
  have HV := Go.Lib.hid hv
  have HB := Go.Lib.hid hbk
  obtain ⟨A, c, rfl, hlc, hc⟩ := hv.form
  obtain ⟨T, hT⟩ : ∃ T, T = lenS p := ⟨_, rfl⟩
  rw [← hT]
  have HT := Go.Lib.hid hT
  clear hv hbk hT
  go_enter Tryz.func23, Tryz.ntmps23
  go_wp2
  go_loopw [3, 8] (fun v3 v8 wr => ∃ (i : Nat), i ≤ p.length ∧ v3 = .int .i64 (lenS (p.take i)) ∧ v8 = .int .i64 i ∧ Below w.heap.size w wr) (fun _ v8 _ => p.length - (intOf v8).toNat)
  case atStart => exact ⟨0, Nat.zero_le _, by simp [lenS], rfl, Below.refl _ _⟩
  case round =>
    obtain ⟨i, hi, rfl, rfl, hbw⟩ := hrel
    by_cases hlt : i < p.length
    · obtain ⟨s, hs⟩ : ∃ s, p[i]? = some s := ⟨_, List.getElem?_eq_getElem hlt⟩
      obtain ⟨b, off, x, rfl, hbl, k1, k2, hx⟩ := (HV.out).at_ hs
      have j1 := (hbw.cell (p := ⟨b, off + i * 2, none⟩) hbl).trans k1
      have j2 := (hbw.cell (p := ⟨b, off + i * 2 + 1, none⟩) hbl).trans k2
      obtain ⟨Ax, cx, rfl, hlx, hcx, -, -⟩ := hx.open_
      have z0 : (0 : Int) ≤ (i : Int) := by omega
      have z1 : (i : Int) < (p.length : Int) := by omega
      have hle : lenS (p.take i) + lenOne s ≤ 100000 := by
        rw [← lenS_take hs]
        exact Nat.le_trans (lenS_bulk _) (Nat.le_trans (bulk_take_le p _) HB.out)
      have HN := Go.Lib.hid (lenS_take hs)
      obtain ⟨o, ho⟩ : ∃ o, o = lenOne s := ⟨_, rfl⟩
      rw [← ho] at HN hle
      obtain ⟨L, hL⟩ : ∃ L, L = lenS (p.take i) := ⟨_, rfl⟩
      rw [← hL] at HN hle ⊢
      clear hx hs k1 k2 hL
      by_cases h1 : s.1 = 1
      · have ho1 : o = 1 := by rw [ho]; unfold lenOne; rw [if_pos h1]
        subst ho1
        rw [h1] at j1
        clear ho h1
        go_wp2
        go_roundw
        case rel => exact ⟨i + 1, by omega, by rw [HN.out]; rfl, by go_num, hbw.alloc hbw.size _⟩
        case measure => simp [intOf]; omega
      · by_cases h2 : s.1 = 2
        · have ho1 : o = s.2.length := by rw [ho]; unfold lenOne; rw [if_neg h1, if_pos h2]
          rw [← ho1] at j2
          rw [h2] at j1
          clear ho h1 h2 ho1
          go_wp2
          go_roundw
          case rel => exact ⟨i + 1, by omega, by rw [HN.out]; rfl, by go_num, hbw.alloc hbw.size _⟩
          case measure => simp [intOf]; omega
        · have ho1 : o = 0 := by rw [ho]; unfold lenOne; rw [if_neg h1, if_neg h2]
          subst ho1
          obtain ⟨ks, hks⟩ : ∃ ks, ks = s.1 := ⟨_, rfl⟩
          rw [← hks] at j1 h1 h2
          clear ho hks
          go_wp2
          go_roundw
          case rel => exact ⟨i + 1, by omega, by rw [HN.out]; rfl, by go_num, hbw.alloc hbw.size _⟩
          case measure => simp [intOf]; omega
    · have HE := Go.Lib.hid (show T = lenS (p.take i) by rw [HT.out, List.take_of_length_le (by omega)])
      go_wp2
      go_ret
      exact ⟨by rw [HE.out]; rfl, hbw⟩

set_option maxRecDepth 100000 in
set_option maxHeartbeats 4000000 in
theorem first_any (v : Value) (n : Nat) (l : List Nat) (p : List Piece) (w : World) (hv : Segs w v ((2, n :: l) :: p)) :
    Calls Tryz.prog 22 #[v] w (Tells (.tuple #[.int .u32 n, .bool true]) w) := by
  obtain ⟨A, c, rfl, hlc, hc⟩ := hv.form
  obtain ⟨b, off, x, rfl, hbl, k1, k2, hx⟩ := hv.at_ (k := 0) (s := (2, n :: l)) rfl
  obtain ⟨Ax, cx, rfl, hlx, hcx, -, -⟩ := hx.open_
  obtain ⟨b2, off2, y, rfl, hb2, hy, hy2, hcy⟩ := hx.at_ (k := 0) (by simp)
  obtain rfl : n = y := by simpa using hy
  have c3 := ((Below.refl w.heap.size w).alloc (Nat.le_refl _) (.cells #[.int .i64 2, .slice (some ⟨b2, off2, none⟩) (n :: l).length cx] 36)).cell (p := ⟨b2, off2 + 0, none⟩) hb2 |>.trans hcy
  have hbz : Below w.heap.size w (w.alloc (.cells #[.int .i64 2, .slice (some ⟨b2, off2, none⟩) (n :: l).length cx] 36)) := (Below.refl _ w).alloc (Nat.le_refl _) _
  obtain ⟨m, hm⟩ : ∃ m, m = (n :: l).length := ⟨_, rfl⟩
  obtain ⟨L, hL⟩ : ∃ L, L = (((2 : Int), n :: l) :: p).length := ⟨_, rfl⟩
  rw [← hm] at k2 c3 hbz
  rw [← hL] at hlc ⊢
  simp only [Nat.zero_mul, Nat.add_zero] at k1 k2 c3
  have hm0 : (0 : Int) < (m : Int) := by rw [hm]; simp
  have hL0 : (0 : Int) < (L : Int) := by rw [hL]; simp
  have hmn : ¬ m = 0 := by omega
  have hd : decide ((m : Int) = 0) = false := by simp; omega
  have hLn : ¬ L = 0 := by omega
  clear hv hx hy hcy hm hL
  go_enter Tryz.func22, Tryz.ntmps22
  go_wp2
  go_ret2
  exact ⟨rfl, hbz⟩
end Go.Proofs.YtcdbeljmniaofaaGreatDoor.Seg


/- path's Good, of a good path. -/
namespace Go.Proofs.YtcdbeljmniaofaaGreatDoor.Seg
open Go.RowKit Mem Rise Segm

/-- Which paths are good. -/
def GoodS (p : List Piece) : Prop := p.length ≤ 100 ∧ ∀ (i : Nat) (s : Piece), p[i]? = some s → 0 < s.2.length ∧ s.2.length ≤ 255 ∧
  ((s.1 = 1 ∧ rising s.2) ∨ (s.1 = 2 ∧ ∀ r : Piece, 0 < i → p[i - 1]? = some r → ¬ (r.1 = 2 ∧ r.2.length < 255)))

set_option maxRecDepth 100000 in
set_option maxHeartbeats 4000000 in
theorem good_any (v : Value) (p : List Piece) (w : World) (hv : Segs w v p) (hg : GoodS p) :
    Calls Tryz.prog 34 #[v] w (Tells (.bool true) w) := by
  have HV := Go.Lib.hid hv
  have HG := Go.Lib.hid hg.2
  have hp := hg.1
  have hpd : decide ((100 : Int) < (p.length : Int)) = false := by simp; omega
  obtain ⟨A, c, rfl, hlc, hc⟩ := hv.form
  clear hv hg
  go_enter Tryz.func34, Tryz.ntmps34
  go_wp2
  go_loopw [10] (fun v10 wr => ∃ (i : Nat), i ≤ p.length ∧ v10 = .int .i64 i ∧ Below w.heap.size w wr) (fun v10 _ => p.length - (intOf v10).toNat)
  case atStart => exact ⟨0, Nat.zero_le _, rfl, Below.refl _ _⟩
  case round =>
    obtain ⟨i, hi, rfl, hbw⟩ := hrel
    by_cases hlt : i < p.length
    · obtain ⟨s, hs⟩ : ∃ s, p[i]? = some s := ⟨_, List.getElem?_eq_getElem hlt⟩
      obtain ⟨b, off, x, rfl, hbl, k1, k2, hx⟩ := (HV.out).at_ hs
      have j1 := (hbw.cell (p := ⟨b, off + i * 2, none⟩) hbl).trans k1
      have j2 := (hbw.cell (p := ⟨b, off + i * 2 + 1, none⟩) hbl).trans k2
      obtain ⟨Ax, cx, rfl, hlx, hcx, -, -⟩ := hx.open_
      obtain ⟨g1, g2, g3⟩ := HG.out i s hs
      have z0 : (0 : Int) ≤ (i : Int) := by omega
      have z1 : (i : Int) < (p.length : Int) := by omega
      obtain ⟨m, hm⟩ : ∃ m, m = s.2.length := ⟨_, rfl⟩
      have d1 : decide ((m : Int) = 0) = false := by simp; omega
      have d2 : decide ((255 : Int) < (m : Int)) = false := by simp; omega
      have d3 : ¬ m = 0 := by omega
      rcases g3 with ⟨h1, hr⟩ | ⟨h2, hp2⟩
      · rw [h1] at j1
        rw [← hm] at j2
        have hbA : Below w.heap.size w (wr.alloc (.cells #[.int .i64 1, .slice Ax m cx] 36)) := hbw.alloc hbw.size _
        have CI := Go.Lib.hid (Nums.is_any _ s.2 _ (hx.keep hbA))
        rw [decide_eq_true hr] at CI
        rw [← hm] at CI
        clear hx hs k1 k2 hm h1 hr g1 g2
        go_wp2_with (go_at_call 48; refine (CI.out).mono ?_; rintro e w1 ⟨rfl, hb1⟩)
        go_roundw
        case rel => exact ⟨i + 1, by omega, by go_num, hbA.trans (hb1.mono hbA.size)⟩
        case measure => simp [intOf]; omega
      · rw [h2] at j1
        rw [← hm] at j2
        by_cases hi0 : i = 0
        · subst hi0
          simp only [Nat.zero_mul, Nat.add_zero] at j1 j2
          clear hx hs k1 k2 hm h2 hp2 g1 g2
          go_wp2
          go_roundw
          case rel => exact ⟨0 + 1, by omega, by go_num, hbw.alloc hbw.size _⟩
          case measure => simp [intOf]; omega
        · have hip : 0 < i := by omega
          obtain ⟨r, hr⟩ : ∃ r, p[i - 1]? = some r := ⟨_, List.getElem?_eq_getElem (by omega)⟩
          have hnr := hp2 r hip hr
          obtain ⟨b', off', y, e9, hbl', k3, k4, hy⟩ := (HV.out).at_ hr
          injection e9 with e9
          injection e9 with e9 e10
          subst e9 e10
          obtain ⟨Ay, cy, rfl, hly, hcy, -, -⟩ := hy.open_
          have hB1 : Below w.heap.size w (wr.alloc (.cells #[.int .i64 2, .slice Ax m cx] 36)) := hbw.alloc hbw.size _
          have j3 := (hB1.cell (p := ⟨b, off + (i - 1) * 2, none⟩) hbl).trans k3
          have j4 := (hB1.cell (p := ⟨b, off + (i - 1) * 2 + 1, none⟩) hbl).trans k4
          obtain ⟨kr, hkr⟩ : ∃ kr, kr = r.1 := ⟨_, rfl⟩
          obtain ⟨mr, hmr⟩ : ∃ mr, mr = r.2.length := ⟨_, rfl⟩
          rw [← hkr] at hnr j3
          rw [← hmr] at hnr j4
          have y0 : (0 : Int) < (i : Int) := by omega
          have y1 : IntKind.i64.wrap ((i : Int) - 1) = ((i - 1 : Nat) : Int) := by rw [IntKind.wrap_i64]; omega
          have y2 : (0 : Int) ≤ ((i - 1 : Nat) : Int) := by omega
          have y3 : ((i - 1 : Nat) : Int) < (p.length : Int) := by omega
          clear hx hy hs hr k1 k2 k3 k4 hm h2 hp2 g1 g2 hkr hmr hB1
          by_cases hk : kr = 2
          · subst hk
            have d5 : decide ((mr : Int) < 255) = false := by
              have : ¬ mr < 255 := fun h => hnr ⟨rfl, h⟩
              simp; omega
            clear hnr
            go_wp2
            go_roundw
            case rel => exact ⟨i + 1, by omega, by go_num, hbw.alloc hbw.size _⟩
            case measure => simp [intOf]; omega
          · have d6 : decide (kr = 2) = false := by simp [hk]
            clear hnr
            go_wp2
            go_roundw
            case rel => exact ⟨i + 1, by omega, by go_num, hbw.alloc hbw.size _⟩
            case measure => simp [intOf]; omega
    · go_wp2
      go_ret
      exact ⟨rfl, hbw⟩
end Go.Proofs.YtcdbeljmniaofaaGreatDoor.Seg


/- path's Text, of a path whose pieces have numbers. -/
namespace Go.Proofs.YtcdbeljmniaofaaGreatDoor.Seg
open Go.RowKit Mem Rise Segm Pfx Dec

/-- The text of a piece. -/
def pieceT (s : Piece) : List UInt8 := if s.1 = 1 then 123 :: (Dec.textL s.2 ++ [125]) else Dec.textL s.2
theorem elemStr : ∃ i, IsElem Tryz.prog 63 9 1 16 i (.string ⟨#[]⟩) := IsElem.mk_ Tryz.underlying63 (by kernel_rfl) rfl (by decide)
/-- Texts in a row of the call's own. -/
def strVals (l : List (List UInt8)) : List Value := l.map fun x => .string (strOf x)
theorem strVals_snoc (l : List (List UInt8)) (x : List UInt8) : strVals (l ++ [x]) = strVals l ++ [.string (strOf x)] := by simp [strVals]
theorem ones_str (l : List (List UInt8)) : ∀ u ∈ strVals l, u.oneCell' = true := fun u hu => by
  obtain ⟨x, _, rfl⟩ := List.mem_map.1 hu
  rfl
theorem row_str (w : World) (x : List UInt8) (t : TypeId) {B : Nat} (hB : B = w.heap.size) : Row (w.alloc (.cells #[.string (strOf x)] t)) 1 (.slice (some ⟨B, 0, none⟩) 1 1) 1 [.string (strOf x)] := by subst hB; exact Row.one w _ t

set_option maxRecDepth 100000 in
set_option maxHeartbeats 4000000 in
theorem ptext_any (v : Value) (p : List Piece) (w : World) (hv : Segs w v p) (hne : p ≠ []) (hg : ∀ s ∈ p, s.2 ≠ [] ∧ s.2.length ≤ 1000 ∧ (s.1 = 1 ∨ s.1 = 2)) (hlen : p.length ≤ 1000)
    (hT : ∀ s ∈ p, Nums.TabOr s.2 w) (hjl : (Lib.join (p.map pieceT) [32]).length ≤ 140737488355328) :
    Calls Tryz.prog 24 #[v] w (Tells (.string (strOf (Lib.join (p.map pieceT) [32]))) w) := by
  obtain ⟨i5, E5⟩ := elemStr
  have HV := Go.Lib.hid hv
  have HG := Go.Lib.hid hg
  have HT := Go.Lib.hid hT
  have HJ := Go.Lib.hid hjl
  have HNE := Go.Lib.hid (List.length_pos_iff.2 hne)
  obtain ⟨A, c, rfl, hlc, hc⟩ := hv.form
  clear hv hg hT hne hjl
  go_enter Tryz.func24, Tryz.ntmps24
  go_wp2
  go_loopw [3, 9] (fun v3 v9 wr => ∃ (i : Nat) (A3 : Option Addr) (c3 : Nat), i ≤ p.length ∧ v3 = .slice A3 i c3 ∧ v9 = .int .i64 i ∧ Hid (wr.ownsRow w.heap.size 9 1 (.slice A3 i c3) i (strVals ((p.take i).map pieceT))) ∧ Below w.heap.size w wr) (fun _ v9 _ => p.length - (intOf v9).toNat)
  case atStart => exact ⟨0, none, 0, Nat.zero_le _, rfl, rfl, by unfold Hid; simpa [strVals] using World.ownsRow_nil _ _ _ _, Below.refl _ _⟩
  case round =>
    obtain ⟨i, A3, c3, hi, rfl, rfl, hown, hbw⟩ := hrel
    by_cases hlt : i < p.length
    · obtain ⟨s, hs⟩ : ∃ s, p[i]? = some s := ⟨_, List.getElem?_eq_getElem hlt⟩
      obtain ⟨b, off, x, rfl, hbl, k1, k2, hx⟩ := (HV.out).at_ hs
      have j1 := (hbw.cell (p := ⟨b, off + i * 2, none⟩) hbl).trans k1
      have j2 := (hbw.cell (p := ⟨b, off + i * 2 + 1, none⟩) hbl).trans k2
      obtain ⟨Ax, cx, rfl, hlx, hcx, -, -⟩ := hx.open_
      obtain ⟨g1, g2, g3⟩ := HG.out s (List.mem_of_getElem? hs)
      have z0 : (0 : Int) ≤ (i : Int) := by omega
      have z1 : (i : Int) < (p.length : Int) := by omega
      obtain ⟨m, hm⟩ : ∃ m, m = s.2.length := ⟨_, rfl⟩
      have hm0 : (0 : Int) < (m : Int) := by have := List.length_pos_iff.2 g1; omega
      have hbA : Below w.heap.size w (wr.alloc (.cells #[.int .i64 s.1, .slice Ax m cx] 36)) := hbw.alloc hbw.size _
      have CT := Go.Lib.hid (Nums.text_any _ s.2 _ (hx.keep hbA) g2 ((HT.out s (List.mem_of_getElem? hs)).keep hbA))
      have HN := Go.Lib.hid (show strVals ((p.take (i + 1)).map pieceT) = strVals ((p.take i).map pieceT) ++ [.string (strOf (pieceT s))] by rw [take_one hs, List.map_append]; exact strVals_snoc _ _)
      have HTL := Go.Lib.hid (show (pieceT s) = if s.1 = 1 then 123 :: (Dec.textL s.2 ++ [125]) else Dec.textL s.2 from rfl)
      have hmt : (Dec.textL s.2).length ≤ 100000 := by
        rw [← Nums.textP_all g1]
        exact Nat.le_trans (Nums.textP_len hx.2 _ (Nat.le_refl _)) (by omega)
      have hne2 : Dec.textL s.2 ≠ [] := by
        rw [← Nums.textP_all g1]
        exact Nums.textP_ne (List.length_pos_iff.2 g1) (Nat.le_refl _)
      obtain ⟨y, hy⟩ : ∃ y, y = Dec.textL s.2 := ⟨_, rfl⟩
      rw [← hy] at CT HTL hmt hne2
      obtain ⟨z, hz⟩ : ∃ z, z = pieceT s := ⟨_, rfl⟩
      rw [← hz] at HN HTL
      have hzn : z ≠ [] := by
        rw [HTL.out]
        split
        · simp
        · exact hne2
      have ht : ((strOf z).toList == []) = false := by rw [toList_strOf]; simpa using hzn
      rw [← hm] at j2
      rw [← hm] at CT
      have HO := Go.Lib.hid hown.out
      have hbW := Go.Lib.hid hbw
      rcases g3 with h1 | h2
      · rw [h1] at j1
        have hzz : z = 123 :: (y ++ [125]) := by rw [HTL.out, if_pos h1]
        have e1 : (⟨#[123]⟩ : ByteArray) ++ strOf y = strOf (123 :: y) := (strOf_append [123] y).symm
        have e2 : strOf (123 :: y) ++ (⟨#[125]⟩ : ByteArray) = strOf z := by
          rw [hzz]
          exact (strOf_append (123 :: y) [125]).symm
        have s1 : ¬ 9223372036854775807 < (⟨#[123]⟩ : ByteArray).size + (strOf y).size := by rw [strOf_size, show (⟨#[123]⟩ : ByteArray).size = 1 from rfl]; omega
        have s2 : ¬ 9223372036854775807 < (strOf (123 :: y)).size + (⟨#[125]⟩ : ByteArray).size := by rw [strOf_size, show (⟨#[125]⟩ : ByteArray).size = 1 from rfl, List.length_cons]; omega
        rw [h1] at CT hbA
        clear hx hs k1 k2 hm h1 g1 g2 hzz hz hy hzn hne2 hown
        go_wp2_with (first | (go_at_call 35; refine (CT.out).mono ?_; rintro e w1 ⟨rfl, hb1⟩; have HO1 := Go.Lib.hid (own_keep (own_keep HO.out ((Below.refl _ _).alloc (Nat.le_refl _) _)) hb1); have hb1w := hbA.trans (hb1.mono hbA.size); have q1 : w1.cell? ⟨wr.heap.size, 0, none⟩ = some (.int .i64 1) := (hb1.cell (p := ⟨wr.heap.size, 0, none⟩) (by simp)).trans (by simp); have hsz1 := hb1w.size) | (at_builtin; refine wpList_append_row rfl (.tmp 28) (.tmp 30) rfl E5 w.heap.size _ i _ rfl (HO1.out.alloc _) _ 1 [.string (strOf z)] rfl (row_str _ _ _ rfl) (by intro u hu; rw [List.mem_singleton.1 hu]; rfl) (by unfold maxLen; omega) (by omega) (by simp; omega) (i + 1) rfl ?_; intro A4 c4 w2 hown4 hg4 hat4 hb4))
        go_roundw
        case rel => exact ⟨i + 1, A4, c4, by omega, rfl, by go_num, by rw [HN.out]; exact hown4, (hb1w.alloc hsz1 _).trans hb4⟩
        case measure => simp [intOf]; omega
      · rw [h2] at j1
        have hzz : z = y := by rw [HTL.out, if_neg (by rw [h2]; decide)]
        rw [← hzz] at CT
        rw [h2] at CT hbA
        clear hx hs k1 k2 hm h2 g1 g2 hzz hz hy hzn hne2 hown
        go_wp2_with (first | (go_at_call 35; refine (CT.out).mono ?_; rintro e w1 ⟨rfl, hb1⟩; have HO1 := Go.Lib.hid (own_keep (own_keep HO.out ((Below.refl _ _).alloc (Nat.le_refl _) _)) hb1); have hb1w := hbA.trans (hb1.mono hbA.size); have q1 : w1.cell? ⟨wr.heap.size, 0, none⟩ = some (.int .i64 2) := (hb1.cell (p := ⟨wr.heap.size, 0, none⟩) (by simp)).trans (by simp); have hsz1 := hb1w.size) | (at_builtin; refine wpList_append_row rfl (.tmp 28) (.tmp 30) rfl E5 w.heap.size _ i _ rfl (HO1.out.alloc _) _ 1 [.string (strOf z)] rfl (row_str _ _ _ rfl) (by intro u hu; rw [List.mem_singleton.1 hu]; rfl) (by unfold maxLen; omega) (by omega) (by simp; omega) (i + 1) rfl ?_; intro A4 c4 w2 hown4 hg4 hat4 hb4))
        go_roundw
        case rel => exact ⟨i + 1, A4, c4, by omega, rfl, by go_num, by rw [HN.out]; exact hown4, (hb1w.alloc hsz1 _).trans hb4⟩
        case measure => simp [intOf]; omega
    · have he : p.take i = p := List.take_of_length_le (by omega)
      obtain rfl : i = p.length := by omega
      rw [he] at hown
      have hr := Row.of_own hown.out
      obtain ⟨_, A9, c9, e9, hn9, hc9, hcell⟩ := hr
      injection e9 with e9 _ e10
      subst e9 e10
      obtain ⟨b, off, rfl, hbl, hcell⟩ := hcell HNE.out
      have e0 : ((p.map pieceT).map strOf).map (fun x : ByteArray => x.data.toList) = p.map pieceT := by
        rw [List.map_map]
        conv => rhs; rw [← List.map_id (p.map pieceT)]
        exact List.map_congr_left fun x _ => by simp [strOf]
      have CJ0 := Tryz.strings_Join b off c3 ((p.map pieceT).map strOf) ⟨#[32]⟩ wr (fun j x hx => by
        refine hcell j _ ?_
        unfold strVals
        rw [List.getElem?_map] at hx ⊢
        cases h : (p.map pieceT)[j]? with
        | none => rw [h] at hx; cases hx
        | some y => rw [h] at hx; injection hx with hx; rw [← hx]; rfl) hbl (by simp; omega) (by simp; omega) (by rw [e0]; exact HJ.out)
      rw [e0] at CJ0
      simp only [List.length_map] at CJ0
      have CJ := Go.Lib.hid CJ0
      have hpi : (0 : Int) < (p.length : Int) := by have := HNE.out; omega
      have hpn : ¬ p.length = 0 := by omega
      have hpd : decide ((p.length : Int) = 0) = false := by simp; exact fun e => by simp [e] at hpn
      clear CJ0 hcell e0
      go_wp2_with (go_at_call 36; refine (CJ.out).mono ?_; rintro e w1 ⟨rfl, hb1⟩)
      go_ret
      exact ⟨rfl, hbw.trans (hb1.mono hbw.size)⟩
end Go.Proofs.YtcdbeljmniaofaaGreatDoor.Seg
