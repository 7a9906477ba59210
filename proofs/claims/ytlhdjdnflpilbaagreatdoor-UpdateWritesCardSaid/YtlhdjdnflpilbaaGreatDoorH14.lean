/- The law's Few; the reference's Size, Good and Same. The reference's Good and Same, of lists of prefixes. The program's Size and place. The reference's Decode. NlriReads: the law's walk, over what the program's Decode gives. -/
import Derived.Test.YtlhdjdnflpilbaaGreatDoorH01
import Derived.Test.YtlhdjdnflpilbaaGreatDoorH04
import Derived.Test.YtlhdjdnflpilbaaGreatDoorH13
import Derived.BigQuiet
import Derived.Test.YtlhdjdnflpilbaaGreatDoorH03
namespace Go.Proofs.YtlhdjdnflpilbaaGreatDoor.PR
open Go.RowKit Go.Sort Mem Pfx
theorem elemP : ∃ i, IsElem Tryz.prog 22 63 2 16 i (.agg #[.int .u32 0, .int .i64 0]) := IsElem.mk_ Tryz.underlying22 (by kernel_rfl) rfl (by decide)
def GivesP (l : List Pf) (w : World) (e : Ending) (w' : World) : Prop :=
 ∃ A c, e = .returned (.slice A l.length c) ∧ w'.ownsRow w.heap.size 63 2 (.slice A l.length c) l.length (pcells l) ∧ Below w.heap.size w w'
theorem own_blk2 {W : World} {base B : Nat} {t : TypeId} (hB : base ≤ B) (h : W.heap[B]? = some (.cells #[] t (0, 0))) : W.ownsRow base t 2 (.slice (some ⟨B, 0, none⟩) 0 0) 0 [] :=
 ⟨rfl, .inr ⟨B, 0, #[], rfl, hB, h, Nat.le_refl _, Nat.zero_le _, rfl, rfl⟩⟩
set_option maxHeartbeats 1000000 in
theorem few_any (v : Value) (l : List Pf) (m : Nat) (w : World) (hv : Pfxs w v l) (hm : m ≤ 1000000) : Calls Tryz.prog 18 #[v, .int .i64 m] w (GivesP (l.take m) w) := by
 obtain ⟨i0, E0⟩ := elemP
 obtain ⟨A, c, rfl, hlc, hc⟩ := hv.form
 have h0 : (w.alloc (.cells #[] 63)).ownsRow w.heap.size 63 2 (.slice (some ⟨w.heap.size, 0, none⟩) 0 0) 0 (pcells []) := own_blk2 (Nat.le_refl _) (heap_alloc_new _ _)
 have H0 := Go.Lib.hid h0
 have hb : Below w.heap.size w (w.alloc (.cells #[] 63)) := (Below.refl _ w).alloc (Nat.le_refl _) _
 have HBB := Go.Lib.hid hb
 by_cases hlt : m < l.length
 ·have z0 : (0 : Int) ≤ (m : Int) := by omega
  have z1 : (m : Int) < (l.length : Int) := by omega
  have z2 : (m : Int) ≤ (c : Int) := by omega
  have e1 : (l.take m).length = m := by rw [List.length_take]; omega
  have hp := ((hv.keep hb).prefix_ (k := m) (d := c) (by omega) (by omega) (by unfold maxLen; omega)).1
  rw [e1] at hp
  have HP := Go.Lib.hid hp
  have HE := Go.Lib.hid e1
  clear hv h0 hb hp e1
  go_enter Tryz.func18, Tryz.ntmps18
  go_wp2_with (at_builtin; refine wpList_append_row rfl (.tmp 12) (.tmp 13) rfl E0 w.heap.size _ 0 _ rfl H0.out _ m (pcells (l.take m)) rfl HP.out (ones_p _) (by unfold maxLen; omega) (by omega) (by simp) (m) (Nat.zero_add _) ?_; intro A1 c1 w1 hown1 hg1 hat1 hb1; have HO := Go.Lib.hid hown1; have HB1 := Go.Lib.hid hb1; clear hown1 hg1 hat1 hb1)
  go_ret
  refine ⟨_, _, by rw [HE.out]; rfl, by rw [HE.out]; exact HO.out, HBB.out.trans HB1.out⟩
 ·have z1 : (l.length : Int) ≤ (m : Int) := by omega
  have HE := Go.Lib.hid (List.take_of_length_le (show l.length ≤ m by omega))
  have HP := Go.Lib.hid (hv.keep hb).1
  clear hv h0 hb
  go_enter Tryz.func18, Tryz.ntmps18
  go_wp2_with (at_builtin; refine wpList_append_row rfl (.tmp 12) (.tmp 13) rfl E0 w.heap.size _ 0 _ rfl H0.out _ l.length (pcells l) rfl HP.out (ones_p _) (by unfold maxLen; omega) (by omega) (by simp) (l.length) (Nat.zero_add _) ?_; intro A1 c1 w1 hown1 hg1 hat1 hb1; have HO := Go.Lib.hid hown1; have HB1 := Go.Lib.hid hb1; clear hown1 hg1 hat1 hb1)
  go_ret
  refine ⟨_, _, by rw [HE.out]; rfl, by rw [HE.out]; exact HO.out, HBB.out.trans HB1.out⟩
def good (p : Pf) : Bool := goodB p.a p.n
def sizeN (p : Pf) : Nat := if good p then 1 + (p.n.toNat + 7) / 8 else 0
theorem sizeN_le (p : Pf) : sizeN p ≤ 5 := by
 unfold sizeN
 split
 ·rename_i h
  have := goodB_len h
  omega
 ·omega
theorem refSize_any (p : Pf) (w : World) (ha : p.a < 4294967296) : Calls Tryz.prog 79 #[pV p] w (Tells (.int .i64 (sizeN p)) w) := by
 obtain ⟨a, n⟩ := p
 unfold pV
 dsimp only at ha ⊢
 have hb := below_new w (.cells #[.int .u32 (a : Int), .int .i64 n] 63)
 obtain ⟨c0, c1⟩ := cells_two w (.int .u32 (a : Int)) (.int .i64 n) 63
 have CG := Go.Lib.hid (fun (W : World) => refGood_any a n ha W)
 have hlt : w.heap.size < (w.alloc (.cells #[.int .u32 (a : Int), .int .i64 n] 63)).heap.size := by simp
 have HS := Go.Lib.hid (show sizeN ⟨a, n⟩ = if goodB a n then 1 + (n.toNat + 7) / 8 else 0 from rfl)
 by_cases hg : goodB a n = true
 ·obtain ⟨h0, h1⟩ := goodB_len hg
  obtain ⟨k, rfl⟩ := Int.eq_ofNat_of_zero_le h0
  have hk : k ≤ 32 := by omega
  have e : sizeN ⟨a, (k : Int)⟩ = 1 + (k + 7) / 8 := by rw [HS.out, if_pos hg]; simp
  rw [e]
  rw [hg] at CG
  have HB := Go.Lib.hid hb
  clear hg h0 h1 e HS hb
  go_enter Tryz.func79, Tryz.ntmps79
  go_wp2_with (go_at_call 73; refine (CG.out _).mono ?_; rintro e w1 ⟨rfl, hb1⟩; have c2 := (hb1.cell (p := ⟨w.heap.size, 1, none⟩) hlt).trans c1; have HB1 := Go.Lib.hid (HB.out.trans (hb1.mono HB.out.size)); clear hb1 c0 c1 hlt)
  go_loopw [3, 4] (fun v3 v4 wx => ∃ j : Nat, 8 * j ≤ k + 7 ∧ v3 = .int .i64 ((1 + j : Nat) : Int) ∧ v4 = .int .i64 ((8 * j : Nat) : Int) ∧ wx = w1) (fun _ v4 _ => 40 - (intOf v4).toNat)
  case atStart => exact ⟨0, by omega, rfl, rfl, rfl⟩
  case round =>
   obtain ⟨j, hj, rfl, rfl, rfl⟩ := hrel
   obtain ⟨i, hi⟩ : ∃ i, i = 8 * j := ⟨_, rfl⟩
   obtain ⟨m, hm⟩ : ∃ m, m = 1 + j := ⟨_, rfl⟩
   rw [← hi, ← hm]
   by_cases hlt : i < k
   ·have z1 : (i : Int) < (k : Int) := by omega
    have z2 : (m : Int) ≤ 40 := by omega
    have HI := Go.Lib.hid (And.intro hi hm)
    clear hi hm
    go_wp2
    go_roundw
    case rel => exact ⟨j + 1, by have := HI.out; omega, by rw [show 1 + (j + 1) = m + 1 by have := HI.out; omega]; go_num, by rw [show 8 * (j + 1) = i + 8 by have := HI.out; omega]; go_num, trivial⟩
    case measure => simp [intOf]; omega
   ·have z1 : decide ((i : Int) < (k : Int)) = false := decide_eq_false (by omega)
    have HM := Go.Lib.hid (show m = 1 + (k + 7) / 8 by omega)
    clear hi hm
    go_wp2
    go_ret
    exact ⟨by rw [← HM.out]; rfl, HB1.out⟩
 ·have e : sizeN ⟨a, n⟩ = 0 := by rw [HS.out, if_neg hg]
  rw [e]
  have hf : goodB a n = false := by simpa using hg
  rw [hf] at CG
  have HB := Go.Lib.hid hb
  clear hg hf e HS hb
  go_enter Tryz.func79, Tryz.ntmps79
  go_wp2_with (go_at_call 73; refine (CG.out _).mono ?_; rintro e w1 ⟨rfl, hb1⟩; have HB1 := Go.Lib.hid (HB.out.trans (hb1.mono HB.out.size)); clear hb1)
  go_ret
  exact ⟨rfl, HB1.out⟩
end Go.Proofs.YtlhdjdnflpilbaaGreatDoor.PR
namespace Go.Proofs.YtlhdjdnflpilbaaGreatDoor.PR
open Go.RowKit Go.Sort Mem Pfx
theorem all_take {l : List Pf} {j : Nat} {p : Pf} (h : l[j]? = some p) : (l.take (j + 1)).all good = ((l.take j).all good && good p) := by
 rw [List.take_add_one, h]; simp
theorem all_bad {l : List Pf} {j : Nat} {p : Pf} (h : l[j]? = some p) (hp : good p = false) : l.all good = false := by
 rw [List.all_eq_false]
 exact ⟨p, List.mem_of_getElem? h, by simp [hp]⟩
set_option maxHeartbeats 1000000 in
theorem refGoods_any (v : Value) (l : List Pf) (w : World) (hv : Pfxs w v l) : Calls Tryz.prog 29 #[v] w (Tells (.bool (l.all good)) w) := by
 have HV := Go.Lib.hid hv
 obtain ⟨A, c, rfl, hlc, hc⟩ := hv.form
 clear hv
 go_enter Tryz.func29, Tryz.ntmps29
 go_wp2
 go_loopw [3] (fun v3 wx => ∃ j : Nat, j ≤ l.length ∧ v3 = .int .i64 j ∧ Hid ((l.take j).all good = true) ∧ Hid (Below w.heap.size w wx)) (fun v3 _ => l.length - (intOf v3).toNat)
 case atStart => exact ⟨0, Nat.zero_le _, rfl, Go.Lib.hid (by simp), Go.Lib.hid (Below.refl _ _)⟩
 case round =>
  obtain ⟨j, hj, rfl, hall, hb⟩ := hrel
  by_cases hlt : j < l.length
  ·obtain ⟨p, hp⟩ : ∃ p, l[j]? = some p := ⟨_, List.getElem?_eq_getElem hlt⟩
   obtain ⟨b, off, rfl, hbl, k0, k1⟩ := (HV.out).at_ hp
   have c0 := (hb.out.cell (p := ⟨b, off + j * 2, none⟩) hbl).trans k0
   have c1 := (hb.out.cell (p := ⟨b, off + j * 2 + 1, none⟩) hbl).trans k1
   have hpa := ((HV.out).2 p (List.mem_of_getElem? hp)).1
   have CG := Go.Lib.hid (fun (W : World) => refGood_any p.a p.n hpa W)
   have z0 : (0 : Int) ≤ (j : Int) := by omega
   have z1 : (j : Int) < (l.length : Int) := by omega
   cases hg : good p with
   | true =>
    have HA := Go.Lib.hid (all_take hp)
    rw [show goodB p.a p.n = true from hg] at CG
    have HG := Go.Lib.hid hg
    clear k0 k1 hp hg hpa hbl
    go_wp2_with (go_at_call 73; refine (CG.out _).mono ?_; rintro e w1 ⟨rfl, hb1⟩; have HB1 := Go.Lib.hid (hb.out.trans (hb1.mono hb.out.size)); clear hb1)
    go_roundw
    case rel => exact ⟨j + 1, hlt, by go_num, Go.Lib.hid (by rw [HA.out, hall.out, HG.out]; rfl), HB1⟩
    case measure => simp [intOf]; omega
   | false =>
    have HA := Go.Lib.hid (all_bad hp hg)
    rw [show goodB p.a p.n = false from hg] at CG
    clear k0 k1 hp hg hpa hbl
    go_wp2_with (go_at_call 73; refine (CG.out _).mono ?_; rintro e w1 ⟨rfl, hb1⟩; have HB1 := Go.Lib.hid (hb.out.trans (hb1.mono hb.out.size)); clear hb1)
    go_ret
    exact ⟨by rw [HA.out]; rfl, HB1.out⟩
  ·have HJ := Go.Lib.hid (show j = l.length by omega)
   have z1 : decide ((j : Int) < (l.length : Int)) = false := decide_eq_false (by omega)
   go_wp2
   go_ret
   have ha := hall.out
   rw [HJ.out, List.take_length] at ha
   exact ⟨by rw [ha]; rfl, hb.out⟩
end Go.Proofs.YtlhdjdnflpilbaaGreatDoor.PR
namespace Go.Proofs.YtlhdjdnflpilbaaGreatDoor.PR
open Go.RowKit Mem Pfx Oct
theorem size_any (p : Pf) (w : World) (ha : p.a < 4294967296) : Calls Tryz.prog 55 #[pV p] w (Tells (.int .i64 (sizeN p)) w) := by
 obtain ⟨a, n⟩ := p
 unfold pV
 dsimp only at ha ⊢
 have hb := below_new w (.cells #[.int .u32 (a : Int), .int .i64 n] 63)
 obtain ⟨c0, c1⟩ := cells_two w (.int .u32 (a : Int)) (.int .i64 n) 63
 have CG := Go.Lib.hid (fun (W : World) => good_any a n ha W)
 have hlt : w.heap.size < (w.alloc (.cells #[.int .u32 (a : Int), .int .i64 n] 63)).heap.size := by simp
 have HS := Go.Lib.hid (show sizeN ⟨a, n⟩ = if goodB a n then 1 + (n.toNat + 7) / 8 else 0 from rfl)
 by_cases hg : goodB a n = true
 ·obtain ⟨h0, h1⟩ := goodB_len hg
  obtain ⟨k, rfl⟩ := Int.eq_ofNat_of_zero_le h0
  have hk : (k : Int) ≤ 32 := by omega
  have e : sizeN ⟨a, (k : Int)⟩ = 1 + (k + 7) / 8 := by rw [HS.out, if_pos hg]; simp
  rw [e]
  rw [hg] at CG
  have HB := Go.Lib.hid hb
  have z0 : (0 : Int) ≤ (k : Int) := by omega
  clear hg h0 h1 e HS hb
  go_enter Tryz.func55, Tryz.ntmps55
  go_wp2_with (go_at_call 65; refine (CG.out _).mono ?_; rintro e w1 ⟨rfl, hb1⟩; have c2 := (hb1.cell (p := ⟨w.heap.size, 1, none⟩) hlt).trans c1; have HB1 := Go.Lib.hid (HB.out.trans (hb1.mono HB.out.size)); clear hb1 c0 c1 hlt)
  go_ret
  refine ⟨?_, HB1.out⟩
  congr 2
  go_num
 ·have e : sizeN ⟨a, n⟩ = 0 := by rw [HS.out, if_neg hg]
  rw [e]
  have hf : goodB a n = false := by simpa using hg
  rw [hf] at CG
  have HB := Go.Lib.hid hb
  clear hg hf e HS hb
  go_enter Tryz.func55, Tryz.ntmps55
  go_wp2_with (go_at_call 65; refine (CG.out _).mono ?_; rintro e w1 ⟨rfl, hb1⟩; have HB1 := Go.Lib.hid (HB.out.trans (hb1.mono HB.out.size)); clear hb1)
  go_ret
  exact ⟨rfl, HB1.out⟩
theorem place_any (i : Nat) (hi : i ≤ 3) (w : World) : Calls Tryz.prog 57 #[.int .i64 i] w (fun e w' => e = .returned (.int .i64 ((24 - 8 * i : Nat) : Int)) ∧ w' = w) := by
 have z0 : (0 : Int) ≤ (i : Int) := by omega
 have z1 : (i : Int) ≤ 3 := by omega
 have e : ((24 - 8 * i : Nat) : Int) = 24 - (i : Int) * 8 := by omega
 rw [e]
 clear e hi
 go_enter Tryz.func57, Tryz.ntmps57
 go_wp2
 go_ret
 exact ⟨rfl, rfl⟩
end Go.Proofs.YtlhdjdnflpilbaaGreatDoor.PR
namespace Go.Proofs.YtlhdjdnflpilbaaGreatDoor.PR
open Go.RowKit Mem Pfx Oct
def DecF (b : List Nat) (w : World) (e : Ending) (w' : World) : Prop :=
 (dec val b = none ∧ e = .returned (.tuple #[.slice none 0 0, .bool false]) ∧ Below w.heap.size w w') ∨
 ∃ L A c, dec val b = some L ∧ e = .returned (.tuple #[.slice A L.length c, .bool true]) ∧ w'.ownsRow w.heap.size 63 2 (.slice A L.length c) L.length (pcells L) ∧ Oks L ∧ Below w.heap.size w w'
theorem size_zero {n : Nat} (h : n ≤ 32) : sizeN ⟨0, (n : Int)⟩ = 1 + span n := by
 unfold sizeN good
 rw [goodB_in h, if_pos (by simp [cutN])]
 rfl
theorem size_big {n : Nat} (h : 32 < n) : sizeN ⟨0, (n : Int)⟩ = 0 := by
 unfold sizeN good
 rw [goodB_no (fitsB_no (.inr (by show (32 : Int) < (n : Int); omega)))]; rfl
theorem own_one2 {w : World} (x y : Value) (t : TypeId) : Row (w.alloc (.cells #[x, y] t)) 2 (.slice (some ⟨w.heap.size, 0, none⟩) 1 1) 1 [x, y] :=
 Row.of_own (base := 0) (e := t) ⟨rfl, .inr ⟨w.heap.size, 1, #[x, y], rfl, Nat.zero_le _, heap_alloc_new _ _, Nat.le_refl _, by decide, rfl, rfl⟩⟩
end Go.Proofs.YtlhdjdnflpilbaaGreatDoor.PR
namespace Go.Proofs.YtlhdjdnflpilbaaGreatDoor.PR
open Go.RowKit Mem Pfx Oct
end Go.Proofs.YtlhdjdnflpilbaaGreatDoor.PR
