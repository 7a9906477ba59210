/- Plain mathematics: the bytes of what is told of a way, and what bytes tell. It speaks of no function of the program. The program's has, Hop, known, Flags, fits, flagged: attributes' types. The program's present: what there is of attributes. The program's Well: which type is missing. The program's putAll: numbers written one after another. The program's value of an attribute. The program's put of an attribute, and its value. The program's fits, flagged and numbers. -/
import Derived.Test.YtlhdjdnflpilbaaGreatDoorH18
import Derived.Test.YtlhdjdnflpilbaaGreatDoorH08
import Derived.Test.YtlhdjdnflpilbaaGreatDoorH21
import Derived.Test.YtlhdjdnflpilbaaGreatDoorH07
import Derived.Test.YtlhdjdnflpilbaaGreatDoorH16
import Derived.Test.YtlhdjdnflpilbaaGreatDoorH13
import Derived.Test.YtlhdjdnflpilbaaGreatDoorH03
import Derived.BigQuiet
import Derived.BigRegion
import Derived.RegionTactic
import Derived.Deep.CutBlock
import Derived.Deep.DeepCutAuto
import Derived.Test.YtlhdjdnflpilbaaGreatDoorH02
import Derived.Test.YtlhdjdnflpilbaaGreatDoorH06
import Derived.Deep.RegionHeld3
namespace Go.Proofs.YtlhdjdnflpilbaaGreatDoor.Att
open Segm Rise Oct
def fours (l : List Nat) : List Nat := l.flatMap fun n => big n 4
theorem fours_cons (n : Nat) (l : List Nat) : fours (n :: l) = big n 4 ++ fours l := rfl
theorem fours_append (l m : List Nat) : fours (l ++ m) = fours l ++ fours m := by simp [fours]
theorem fours_len : ∀ l : List Nat, (fours l).length = 4 * l.length
 | [] => rfl
 | n :: l => by rw [fours_cons, List.length_append, big_len, fours_len l, List.length_cons]; omega
theorem fours_small : ∀ l : List Nat, Small (fours l)
 | [] => small_nil
 | n :: l => by rw [fours_cons]; exact (big_small n 4).append (fours_small l)
def segB (s : Piece) : List Nat := lo8 s.1 :: lo8 (s.2.length : Int) :: fours s.2
def pathB (p : List Piece) : List Nat := p.flatMap segB
theorem pathB_append (p q : List Piece) : pathB (p ++ q) = pathB p ++ pathB q := by simp [pathB]
theorem pathB_cons (s : Piece) (q : List Piece) : pathB (s :: q) = segB s ++ pathB q := rfl
theorem segB_len (s : Piece) : (segB s).length = 2 + 4 * s.2.length := by unfold segB; simp only [List.length_cons, fours_len]; omega
theorem segB_small (s : Piece) : Small (segB s) := by
 unfold segB
 intro n hn
 simp only [List.mem_cons] at hn
 rcases hn with rfl | rfl | h
 ·exact lo8_lt _
 ·exact lo8_lt _
 ·exact fours_small _ n h
theorem pathB_small : ∀ p : List Piece, Small (pathB p)
 | [] => small_nil
 | s :: p => by rw [pathB_cons]; exact (segB_small s).append (pathB_small p)
theorem pathB_len : ∀ p : List Piece, (pathB p).length = 2 * p.length + 4 * lens p
 | [] => rfl
 | s :: p => by
  rw [pathB_cons, List.length_append, segB_len, pathB_len p, List.length_cons]
  have e : lens (s :: p) = s.2.length + lens p := by simp [lens]
  rw [e]; omega
def valB (a : At) (k : Nat) : List Nat :=
 if k = 1 then [lo8 a.origin] else if k = 2 then pathB a.path else if k = 3 then big a.hop 4 else if k = 4 then big a.med 4 else if k = 5 then big a.pref 4 else if k = 7 then big a.aas 4 ++ big a.aid 4 else if k = 8 then fours a.comms else []
def flagN (k : Nat) : Nat := if k = 1 ∨ k = 2 ∨ k = 3 ∨ k = 5 ∨ k = 6 then 64 else if k = 4 then 128 else if k = 7 ∨ k = 8 then 192 else 0
theorem flagN_is (k : Nat) : flagsN (k : Int) = (flagN k : Int) := by
 unfold flagsN flagN
 by_cases h1 : k = 1 ∨ k = 2 ∨ k = 3 ∨ k = 5 ∨ k = 6
 ·rw [if_pos h1, if_pos (by omega)]; rfl
 ·rw [if_neg h1, if_neg (by omega)]
  by_cases h2 : k = 4
  ·rw [if_pos h2, if_pos (by omega)]; rfl
  ·rw [if_neg h2, if_neg (by omega)]
   by_cases h3 : k = 7 ∨ k = 8
   ·rw [if_pos h3, if_pos (by omega)]; rfl
   ·rw [if_neg h3, if_neg (by omega)]; rfl
def itemB (f k : Nat) (v : List Nat) : List Nat := if f / 16 % 2 = 1 then f :: k :: (big v.length 2 ++ v) else f :: k :: v.length :: v
def longF (f n : Nat) : Nat := if 255 < n then f + 16 else f
def attrB (a : At) (k : Nat) : List Nat := itemB (longF (flagN k) (valB a k).length) k (valB a k)
def encTo (a : At) : Nat → List Nat
 | 0 => []
 | k + 1 => encTo a k ++ if hasB a.has ((k + 1 : Nat) : Int) then attrB a (k + 1) else []
def encA (a : At) : List Nat := encTo a 8
structure Item where
 f : Nat
 k : Nat
 v : List Nat
 r : List Nat
def itemOf (b : List Nat) : Option Item := match b with
 | f :: k :: r =>
  if f / 16 % 2 = 1 then (match r with
   | n1 :: n0 :: r2 => if n1 * 256 + n0 ≤ r2.length then some ⟨f, k, r2.take (n1 * 256 + n0), r2.drop (n1 * 256 + n0)⟩ else none
   | _ => none)
  else (match r with
   | n0 :: r2 => if n0 ≤ r2.length then some ⟨f, k, r2.take n0, r2.drop n0⟩ else none
   | _ => none)
 | _ => none
def pathOf : Nat → List Nat → Option (List Piece)
 | 0, b => if b = [] then some [] else none
 | n + 1, b => match b with
  | [] => some []
  | k :: c :: r => if (k = 1 ∨ k = 2) ∧ c ≠ 0 ∧ 4 * c ≤ r.length then (pathOf n (r.drop (4 * c))).map fun l => ((k : Int), quadsN r c) :: l else none
  | _ => none
def pathIs (b : List Nat) : Option (List Piece) := pathOf b.length b
def ownF (f k : Nat) : Nat := (if f / 16 % 2 = 1 then f - 16 else f) - (if 7 ≤ k ∧ f / 32 % 2 = 1 then 32 else 0)
def subOf (f k : Nat) (v : List Nat) : Nat :=
 if k < 1 ∨ 8 < k then (if f < 128 then 2 else 0)
 else if ownF f k ≠ flagN k then 4
 else if longB k v.length = false then 5
 else if k = 1 then (if 2 < val v then 6 else 0)
 else if k = 2 then (match pathIs v with | some p => if goodP (normS p) && decide (lens p ≤ 2000) then 0 else 11 | none => 11)
 else if k = 3 then (if hopB (val v) then 0 else 8)
 else 0
def layA (a : At) (k : Nat) (v : List Nat) : At :=
 if k < 1 ∨ 8 < k then a else
 ⟨a.has + 2 ^ k, if k = 1 then (val v : Nat) else a.origin, if k = 2 then (pathIs v).getD [] else a.path, if k = 3 then val v else a.hop, if k = 4 then val v else a.med, if k = 5 then val v else a.pref,
  if k = 7 then val (v.take 4) else a.aas, if k = 7 then val (v.drop 4) else a.aid, if k = 8 then quads v else a.comms⟩
def badN (s : Nat) (x : Item) : No := ⟨3, s, if s = 11 then [] else itemB x.f x.k x.v⟩
def decA : Nat → List Nat → At → List Nat → No ⊕ At
 | 0, _, a, _ => .inr (normA a)
 | n + 1, seen, a, b => if b = [] then .inr (normA a) else match itemOf b with
  | none => .inl ⟨3, 1, []⟩
  | some x => if x.k ∈ seen then .inl ⟨3, 1, []⟩ else if subOf x.f x.k x.v = 0 then decA n (x.k :: seen) (layA a x.k x.v) x.r else .inl (badN (subOf x.f x.k x.v) x)
def decodeA (b : List Nat) : No ⊕ At := decA b.length [] zeroA b
def noneN : No := ⟨0, 0, []⟩
def outA : No ⊕ At → At × No
 | .inl n => (zeroA, n)
 | .inr a => (a, noneN)
end Go.Proofs.YtlhdjdnflpilbaaGreatDoor.Att
namespace Go.Proofs.YtlhdjdnflpilbaaGreatDoor.Att
open Go.RowKit Mem Segm Oct
def wideN (k : Nat) : Nat := if k = 1 then 1 else if k = 3 ∨ k = 4 ∨ k = 5 then 4 else if k = 7 then 8 else 0
def Shp (W : World) : Prop := ∀ k : Nat, k ≤ 8 → W.cell? ⟨0, 2 * k, none⟩ = some (.int .i64 (flagN k : Nat)) ∧ W.cell? ⟨0, 2 * k + 1, none⟩ = some (.int .i64 (wideN k : Nat))
theorem Shp.keep {W W' : World} (h : Shp W) (hb : Below W.heap.size W W') : Shp W' := fun k hk =>
 ⟨keeps hb (h k hk).1, keeps hb (h k hk).2⟩
set_option maxHeartbeats 1000000 in
theorem has_any (h : Int) (k : Nat) (x1 x2 x3 x4 x5 x6 x7 x8 : Value) (w : World) (hk : k ≤ 8) :
  Calls Tryz.prog 58 #[.agg #[.int .i64 h, x1, x2, x3, x4, x5, x6, x7, x8], .int .i64 k] w (Tells (.bool (hasB h k)) w) := by
 have HB := Go.Lib.hid (show Below w.heap.size w (w.alloc (.cells #[.int .i64 h, x1, x2, x3, x4, x5, x6, x7, x8] 27)) from (Below.refl _ w).alloc (Nat.le_refl _) _)
 obtain ⟨c0, -⟩ := (Box9.new w 27 (.int .i64 h) x1 x2 x3 x4 x5 x6 x7 x8).cells
 have e : wrap64 ((2 : Int) ^ k) = 2 ^ k := by
  have h1 : (2 : Int) ^ k = ((2 ^ k : Nat) : Int) := by simp
  have h2 : 2 ^ k ≤ 256 := Nat.le_trans (Nat.pow_le_pow_right (by omega) hk) (by decide)
  rw [h1]
  generalize 2 ^ k = y at h2
  unfold wrap64; omega
 have HP := Go.Lib.hid (show (bits .and .i64 h (wrap64 (2 ^ k)) != 0) = hasB h k by rw [e]; exact and_pow_has h k hk)
 clear e
 have z0 : (0 : Int) ≤ (k : Int) := by omega
 go_enter Tryz.func58, Tryz.ntmps58
 go_wp2
 go_quiet (fail)
 go_wp2
 go_ret
 exact ⟨by rw [← HP.out]; rfl, HB.out.trans ((Mem.below_drewN _ _).mono HB.out.size)⟩
theorem hop_any (a : Nat) (w : World) (ha : a < 4294967296) : Calls Tryz.prog 71 #[.int .u32 a] w (Tells (.bool (hopB a)) w) := by
 have HB := Go.Lib.hid (Below.refl w.heap.size w)
 by_cases h0 : a = 0
 ·subst h0
  go_enter Tryz.func71, Tryz.ntmps71
  go_wp2
  go_ret
  exact ⟨rfl, HB.out⟩
 ·by_cases h1 : a = 4294967295
  ·subst h1
   go_enter Tryz.func71, Tryz.ntmps71
   go_wp2
   go_ret
   exact ⟨rfl, HB.out⟩
  ·have y0 : ((a : Int) != 0) = true := by simp; omega
   have y1 : ((a : Int) != 4294967295) = true := by simp; omega
   by_cases h2 : (a : Int) < 3758096384
   ·by_cases h3 : True
    ·have e : hopB a = true := by unfold hopB; rw [decide_eq_true h0, decide_eq_true h1, decide_eq_true (show a / 268435456 ≠ 14 by omega)]; rfl
     rw [e]
     clear e ha
     go_enter Tryz.func71, Tryz.ntmps71
     go_wp2
     go_ret
     exact ⟨rfl, HB.out⟩
    ·exact absurd trivial h3
   ·have d2 : decide ((a : Int) < 3758096384) = false := decide_eq_false h2
    by_cases h3 : (4026531839 : Int) < (a : Int)
    ·have e : hopB a = true := by unfold hopB; rw [decide_eq_true h0, decide_eq_true h1, decide_eq_true (show a / 268435456 ≠ 14 by omega)]; rfl
     rw [e]
     clear e ha
     go_enter Tryz.func71, Tryz.ntmps71
     go_wp2
     go_ret
     exact ⟨rfl, HB.out⟩
    ·have d3 : decide ((4026531839 : Int) < (a : Int)) = false := decide_eq_false h3
     have e : hopB a = false := by unfold hopB; rw [decide_eq_true h0, decide_eq_true h1, decide_eq_false (show ¬ a / 268435456 ≠ 14 by omega)]; rfl
     rw [e]
     clear e ha
     go_enter Tryz.func71, Tryz.ntmps71
     go_wp2
     go_ret
     exact ⟨rfl, HB.out⟩
theorem known_any (k : Int) (w : World) : Calls Tryz.prog 93 #[.int .i64 k] w (Tells (.bool (decide (1 ≤ k) && decide (k ≤ 8))) w) := by
 have HB := Go.Lib.hid (Below.refl w.heap.size w)
 by_cases h0 : 1 ≤ k
 ·have HE := Go.Lib.hid (show (decide (1 ≤ k) && decide (k ≤ 8)) = decide (k ≤ 8) by rw [decide_eq_true h0]; rfl)
  rw [HE.out]
  go_enter Tryz.func93, Tryz.ntmps93
  go_wp2
  go_ret
  exact ⟨rfl, HB.out⟩
 ·have d0 : decide (1 ≤ k) = false := decide_eq_false h0
  rw [d0]
  go_enter Tryz.func93, Tryz.ntmps93
  go_wp2
  go_ret
  exact ⟨rfl, HB.out⟩
theorem flags_any (k : Int) (w : World) (hS : Shp w) : Calls Tryz.prog 59 #[.int .i64 k] w (Tells (.int .i64 (flagsN k)) w) := by
 by_cases hk : 1 ≤ k ∧ k ≤ 8
 ·obtain ⟨m, rfl⟩ := Int.eq_ofNat_of_zero_le (show 0 ≤ k by omega)
  have CK := Go.Lib.hid (fun W => show Calls Tryz.prog 93 #[.int .i64 m] W (Tells (.bool true) W) from by
   have h := known_any (m : Int) W
   rw [decide_eq_true hk.1, decide_eq_true hk.2] at h
   exact h)
  have HS := Go.Lib.hid hS
  rw [flagN_is]
  have z0 : (0 : Int) ≤ (m : Int) := by omega
  have z9 : (m : Int) < 9 := by omega
  have hm : m ≤ 8 := by omega
  have e2 : m * 2 = 2 * m := by omega
  clear hS hk
  go_enter Tryz.func59, Tryz.ntmps59
  go_wp2_with (go_at_call 93; refine (CK.out _).mono ?_; rintro e w1 ⟨rfl, hb⟩; have HB := Go.Lib.hid hb; have c0 := (HS.out.keep hb m hm).1; clear hb)
  go_ret
  exact ⟨rfl, HB.out⟩
 ·have CK := Go.Lib.hid (fun W => show Calls Tryz.prog 93 #[.int .i64 k] W (Tells (.bool false) W) from by
   have h := known_any k W
   rw [show (decide (1 ≤ k) && decide (k ≤ 8)) = false by
    by_cases h1 : 1 ≤ k
    ·rw [decide_eq_false (show ¬ k ≤ 8 from fun h2 => hk ⟨h1, h2⟩)]; simp
    ·rw [decide_eq_false h1]; rfl] at h
   exact h)
  have e : flagsN k = 0 := by unfold flagsN; rw [if_neg (by omega), if_neg (by omega), if_neg (by omega)]
  rw [e]
  clear hS hk
  go_enter Tryz.func59, Tryz.ntmps59
  go_wp2_with (go_at_call 93; refine (CK.out _).mono ?_; rintro e w1 ⟨rfl, hb⟩; have HB := Go.Lib.hid hb; clear hb)
  go_ret
  exact ⟨rfl, HB.out⟩
end Go.Proofs.YtlhdjdnflpilbaaGreatDoor.Att
namespace Go.Proofs.YtlhdjdnflpilbaaGreatDoor.Att
open Go.RowKit Mem Segm Oct
theorem upto_form (h : Int) : ∃ x : Nat, hasUpto h 8 = x % 512 - x % 2 ∧ ∀ k : Nat, 1 ≤ k → k ≤ 8 → hasB h (k : Int) = (x / 2 ^ k % 2 == 1) := by
 have H : ∀ k : Nat, 1 ≤ k → k ≤ 8 → hasB h (k : Int) = ((h % 18446744073709551616).toNat / 2 ^ k % 2 == 1) := fun k h1 h8 => by
  generalize hx : (h % 18446744073709551616).toNat = x
  rw [hasB_in (by omega)]
  have hx0 : (x : Int) = h % 18446744073709551616 := by omega
  have hk2 : k = 1 ∨ k = 2 ∨ k = 3 ∨ k = 4 ∨ k = 5 ∨ k = 6 ∨ k = 7 ∨ k = 8 := by omega
  have e : h / 2 ^ k % 2 = ((x / 2 ^ k % 2 : Nat) : Int) := by
   rcases hk2 with rfl | rfl | rfl | rfl | rfl | rfl | rfl | rfl <;> simp only [Nat.reducePow, Int.reducePow] <;> omega
  rw [e]
  by_cases hd : x / 2 ^ k % 2 = 1
  ·rw [hd]; rfl
  ·rw [show x / 2 ^ k % 2 = 0 by omega]; rfl
 exact ⟨_, hasUpto_nat H 8 (by omega), H⟩
theorem hasB_upto (h : Int) (k : Nat) (h1 : 1 ≤ k) (h8 : k ≤ 8) : hasB (hasUpto h 8 : Nat) (k : Int) = hasB h (k : Int) := by
 obtain ⟨x, e, H⟩ := upto_form h
 rw [H k h1 h8, e, hasB_in (by omega)]
 have hk2 : k = 1 ∨ k = 2 ∨ k = 3 ∨ k = 4 ∨ k = 5 ∨ k = 6 ∨ k = 7 ∨ k = 8 := by omega
 have e2 : (((x % 512 - x % 2 : Nat) : Int)) / 2 ^ k % 2 = ((x / 2 ^ k % 2 : Nat) : Int) := by
  rcases hk2 with rfl | rfl | rfl | rfl | rfl | rfl | rfl | rfl <;> simp only [Nat.reducePow, Int.reducePow] <;> omega
 rw [e2]
 by_cases hd : x / 2 ^ k % 2 = 1
 ·rw [hd]; rfl
 ·rw [show x / 2 ^ k % 2 = 0 by omega]; rfl
structure PresSt (w : World) (y0 y1 y2 y3 y4 y5 y6 y7 y8 : Value) (W : World) : Prop where
 b1 : Box9 W w.heap.size 27 y0 y1 y2 y3 y4 y5 y6 y7 y8
 b2 : Box9 W (w.heap.size + 1) 27 (.int .i64 0) (.int .i64 0) (.slice none 0 0) (.int .u32 0) (.int .u32 0) (.int .u32 0) (.int .u32 0) (.int .u32 0) (.slice none 0 0)
 low : Below w.heap.size w W
section
variable {w W W' : World} {y0 y1 y2 y3 y4 y5 y6 y7 y8 : Value}
theorem PresSt.below (h : PresSt w y0 y1 y2 y3 y4 y5 y6 y7 y8 W) (hb : Below W.heap.size W W') : PresSt w y0 y1 y2 y3 y4 y5 y6 y7 y8 W' :=
 ⟨h.b1.keep hb, h.b2.keep hb, h.low.trans (hb.mono h.low.size)⟩
theorem PresSt.set0 (h : PresSt w y0 y1 y2 y3 y4 y5 y6 y7 y8 W) (v : Value) : PresSt w v y1 y2 y3 y4 y5 y6 y7 y8 (W.setCell ⟨w.heap.size, 0, none⟩ v) :=
 ⟨h.b1.set0 v, box_far h.b2 (by omega), h.low.setCell (p := ⟨w.heap.size, 0, none⟩) (Nat.le_refl _) _⟩
theorem PresSt.set1 (h : PresSt w y0 y1 y2 y3 y4 y5 y6 y7 y8 W) (v : Value) : PresSt w y0 v y2 y3 y4 y5 y6 y7 y8 (W.setCell ⟨w.heap.size, 1, none⟩ v) :=
 ⟨h.b1.set1 v, box_far h.b2 (by omega), h.low.setCell (p := ⟨w.heap.size, 1, none⟩) (Nat.le_refl _) _⟩
theorem PresSt.set2 (h : PresSt w y0 y1 y2 y3 y4 y5 y6 y7 y8 W) (v : Value) : PresSt w y0 y1 v y3 y4 y5 y6 y7 y8 (W.setCell ⟨w.heap.size, 2, none⟩ v) :=
 ⟨h.b1.set2 v, box_far h.b2 (by omega), h.low.setCell (p := ⟨w.heap.size, 2, none⟩) (Nat.le_refl _) _⟩
theorem PresSt.set3 (h : PresSt w y0 y1 y2 y3 y4 y5 y6 y7 y8 W) (v : Value) : PresSt w y0 y1 y2 v y4 y5 y6 y7 y8 (W.setCell ⟨w.heap.size, 3, none⟩ v) :=
 ⟨h.b1.set3 v, box_far h.b2 (by omega), h.low.setCell (p := ⟨w.heap.size, 3, none⟩) (Nat.le_refl _) _⟩
theorem PresSt.set4 (h : PresSt w y0 y1 y2 y3 y4 y5 y6 y7 y8 W) (v : Value) : PresSt w y0 y1 y2 y3 v y5 y6 y7 y8 (W.setCell ⟨w.heap.size, 4, none⟩ v) :=
 ⟨h.b1.set4 v, box_far h.b2 (by omega), h.low.setCell (p := ⟨w.heap.size, 4, none⟩) (Nat.le_refl _) _⟩
theorem PresSt.set5 (h : PresSt w y0 y1 y2 y3 y4 y5 y6 y7 y8 W) (v : Value) : PresSt w y0 y1 y2 y3 y4 v y6 y7 y8 (W.setCell ⟨w.heap.size, 5, none⟩ v) :=
 ⟨h.b1.set5 v, box_far h.b2 (by omega), h.low.setCell (p := ⟨w.heap.size, 5, none⟩) (Nat.le_refl _) _⟩
theorem PresSt.set6 (h : PresSt w y0 y1 y2 y3 y4 y5 y6 y7 y8 W) (v : Value) : PresSt w y0 y1 y2 y3 y4 y5 v y7 y8 (W.setCell ⟨w.heap.size, 6, none⟩ v) :=
 ⟨h.b1.set6 v, box_far h.b2 (by omega), h.low.setCell (p := ⟨w.heap.size, 6, none⟩) (Nat.le_refl _) _⟩
theorem PresSt.set7 (h : PresSt w y0 y1 y2 y3 y4 y5 y6 y7 y8 W) (v : Value) : PresSt w y0 y1 y2 y3 y4 y5 y6 v y8 (W.setCell ⟨w.heap.size, 7, none⟩ v) :=
 ⟨h.b1.set7 v, box_far h.b2 (by omega), h.low.setCell (p := ⟨w.heap.size, 7, none⟩) (Nat.le_refl _) _⟩
theorem PresSt.set8 (h : PresSt w y0 y1 y2 y3 y4 y5 y6 y7 y8 W) (v : Value) : PresSt w y0 y1 y2 y3 y4 y5 y6 y7 v (W.setCell ⟨w.heap.size, 8, none⟩ v) :=
 ⟨h.b1.set8 v, box_far h.b2 (by omega), h.low.setCell (p := ⟨w.heap.size, 8, none⟩) (Nat.le_refl _) _⟩
end
theorem pres_new (w : World) (x0 x1 x2 x3 x4 x5 x6 x7 x8 : Value) : PresSt w x0 x1 x2 x3 x4 x5 x6 x7 x8 ((w.alloc (.cells #[x0, x1, x2, x3, x4, x5, x6, x7, x8] 27)).alloc (.cells #[.int .i64 0, .int .i64 0, .slice none 0 0, .int .u32 0, .int .u32 0, .int .u32 0, .int .u32 0, .int .u32 0, .slice none 0 0] 27)) := by
 obtain ⟨h1, h2, h3⟩ := two_boxes w 27 x0 x1 x2 x3 x4 x5 x6 x7 x8 (.int .i64 0) (.int .i64 0) (.slice none 0 0) (.int .u32 0) (.int .u32 0) (.int .u32 0) (.int .u32 0) (.int .u32 0) (.slice none 0 0)
 exact ⟨h1, h2, h3⟩
set_option maxRecDepth 100000 in
set_option maxHeartbeats 16000000 in
theorem pres8 (h o : Int) (Ap Ac : Option Addr) (np cp nc cc hp md pr ag ai : Nat) (w : World)
  (o1 : Int) (Ap1 Ac1 : Option Addr) (np1 cp1 nc1 cc1 hp1 md1 pr1 ag1 ai1 : Nat)
  (E1 : Hid (o1 = if hasB h 1 then o else 0)) (E2 : Hid (Value.slice Ap1 np1 cp1 = if hasB h 2 then .slice Ap np cp else .slice none 0 0))
  (E3 : Hid (hp1 = if hasB h 3 then hp else 0)) (E4 : Hid (md1 = if hasB h 4 then md else 0)) (E5 : Hid (pr1 = if hasB h 5 then pr else 0)) (E6 : Hid (ag1 = if hasB h 7 then ag else 0)) (E7 : Hid (ai1 = if hasB h 7 then ai else 0))
  (E8 : Hid (Value.slice Ac1 nc1 cc1 = if hasB h 8 then .slice Ac nc cc else .slice none 0 0)) :
  Calls Tryz.prog 68 #[.agg #[.int .i64 h, .int .i64 o, .slice Ap np cp, .int .u32 hp, .int .u32 md, .int .u32 pr, .int .u32 ag, .int .u32 ai, .slice Ac nc cc]] w (Tells (.agg #[.int .i64 (hasUpto h 8 : Nat), .int .i64 o1, .slice Ap1 np1 cp1, .int .u32 hp1, .int .u32 md1, .int .u32 pr1, .int .u32 ag1, .int .u32 ai1, .slice Ac1 nc1 cc1]) w) := by
 have CH := Go.Lib.hid (fun (k : Int) (hk : 1 ≤ k) (hk8 : k ≤ 8) (x1 x2 x3 x4 x5 x6 x7 x8 : Value) (W : World) => show Calls Tryz.prog 58 #[.agg #[.int .i64 (hasUpto h 8 : Nat), x1, x2, x3, x4, x5, x6, x7, x8], .int .i64 k] W (Tells (.bool (hasB h k)) W) from by
  obtain ⟨m, rfl⟩ := Int.eq_ofNat_of_zero_le (show 0 ≤ k by omega)
  have q := has_any (hasUpto h 8 : Nat) m x1 x2 x3 x4 x5 x6 x7 x8 W (by omega)
  rw [hasB_upto h m (by omega) (by omega)] at q
  exact q)
 have S0 := Go.Lib.hid (pres_new w (.int .i64 h) (.int .i64 o) (.slice Ap np cp) (.int .u32 hp) (.int .u32 md) (.int .u32 pr) (.int .u32 ag) (.int .u32 ai) (.slice Ac nc cc))
 obtain ⟨c0, c1, c2, c3, c4, c5, c6, c7, c8⟩ := S0.out.b1.cells
 have ff := S0.out.b1.free
 have HA := and_510 h
 have ST := Go.Lib.hid (pres_new w (.int .i64 (hasUpto h 8 : Nat)) (.int .i64 o) (.slice Ap np cp) (.int .u32 hp) (.int .u32 md) (.int .u32 pr) (.int .u32 ag) (.int .u32 ai) (.slice Ac nc cc))
 clear S0
 go_enter Tryz.func68, Tryz.ntmps68
 go_upto_if 9 with (go_at_call 58; refine (CH.out 1 (by decide) (by decide) _ _ _ _ _ _ _ _ _).mono ?_; rintro e x ⟨rfl, hx⟩; replace ST := Go.Lib.hid (ST.out.below hx); clear c0 c1 c2 c3 c4 c5 c6 c7 c8; obtain ⟨c0, c1, c2, c3, c4, c5, c6, c7, c8⟩ := ST.out.b1.cells; have ff := ST.out.b1.free; clear hx)
 go_cut [] from 7 (fun wx => Hid (PresSt w (.int .i64 (hasUpto h 8 : Nat)) (.int .i64 o1) (.slice Ap np cp) (.int .u32 hp) (.int .u32 md) (.int .u32 pr) (.int .u32 ag) (.int .u32 ai) (.slice Ac nc cc) wx))
 case first =>
  cases hb : hasB h 1 with
  | false =>
   go_wp2
   go_meet
   rw [E1.out, if_neg (show ¬ hasB h 1 = true by rw [hb]; decide)]
   exact Go.Lib.hid (ST.out.set1 _)
  | true =>
   go_wp2
   go_meet
   rw [E1.out, if_pos hb]
   exact ST
 case rest =>
 clear c0 c1 c2 c3 c4 c5 c6 c7 c8 ST
 have ST := hcut
 clear hcut
 obtain ⟨c0, c1, c2, c3, c4, c5, c6, c7, c8⟩ := ST.out.b1.cells
 go_upto_if 13 with (go_at_call 58; refine (CH.out 2 (by decide) (by decide) _ _ _ _ _ _ _ _ _).mono ?_; rintro e x ⟨rfl, hx⟩; replace ST := Go.Lib.hid (ST.out.below hx); clear c0 c1 c2 c3 c4 c5 c6 c7 c8; obtain ⟨c0, c1, c2, c3, c4, c5, c6, c7, c8⟩ := ST.out.b1.cells; have ff := ST.out.b1.free; clear hx)
 go_cut [] from 11 (fun wx => Hid (PresSt w (.int .i64 (hasUpto h 8 : Nat)) (.int .i64 o1) (.slice Ap1 np1 cp1) (.int .u32 hp) (.int .u32 md) (.int .u32 pr) (.int .u32 ag) (.int .u32 ai) (.slice Ac nc cc) wx))
 case first =>
  cases hb : hasB h 2 with
  | false =>
   go_wp2
   go_meet
   rw [E2.out, if_neg (show ¬ hasB h 2 = true by rw [hb]; decide)]
   exact Go.Lib.hid (ST.out.set2 _)
  | true =>
   go_wp2
   go_meet
   rw [E2.out, if_pos hb]
   exact ST
 case rest =>
 clear c0 c1 c2 c3 c4 c5 c6 c7 c8 ST
 have ST := hcut
 clear hcut
 obtain ⟨c0, c1, c2, c3, c4, c5, c6, c7, c8⟩ := ST.out.b1.cells
 go_upto_if 17 with (go_at_call 58; refine (CH.out 3 (by decide) (by decide) _ _ _ _ _ _ _ _ _).mono ?_; rintro e x ⟨rfl, hx⟩; replace ST := Go.Lib.hid (ST.out.below hx); clear c0 c1 c2 c3 c4 c5 c6 c7 c8; obtain ⟨c0, c1, c2, c3, c4, c5, c6, c7, c8⟩ := ST.out.b1.cells; have ff := ST.out.b1.free; clear hx)
 go_cut [] from 15 (fun wx => Hid (PresSt w (.int .i64 (hasUpto h 8 : Nat)) (.int .i64 o1) (.slice Ap1 np1 cp1) (.int .u32 hp1) (.int .u32 md) (.int .u32 pr) (.int .u32 ag) (.int .u32 ai) (.slice Ac nc cc) wx))
 case first =>
  cases hb : hasB h 3 with
  | false =>
   go_wp2
   go_meet
   rw [E3.out, if_neg (show ¬ hasB h 3 = true by rw [hb]; decide)]
   exact Go.Lib.hid (ST.out.set3 _)
  | true =>
   go_wp2
   go_meet
   rw [E3.out, if_pos hb]
   exact ST
 case rest =>
 clear c0 c1 c2 c3 c4 c5 c6 c7 c8 ST
 have ST := hcut
 clear hcut
 obtain ⟨c0, c1, c2, c3, c4, c5, c6, c7, c8⟩ := ST.out.b1.cells
 go_upto_if 21 with (go_at_call 58; refine (CH.out 4 (by decide) (by decide) _ _ _ _ _ _ _ _ _).mono ?_; rintro e x ⟨rfl, hx⟩; replace ST := Go.Lib.hid (ST.out.below hx); clear c0 c1 c2 c3 c4 c5 c6 c7 c8; obtain ⟨c0, c1, c2, c3, c4, c5, c6, c7, c8⟩ := ST.out.b1.cells; have ff := ST.out.b1.free; clear hx)
 go_cut [] from 19 (fun wx => Hid (PresSt w (.int .i64 (hasUpto h 8 : Nat)) (.int .i64 o1) (.slice Ap1 np1 cp1) (.int .u32 hp1) (.int .u32 md1) (.int .u32 pr) (.int .u32 ag) (.int .u32 ai) (.slice Ac nc cc) wx))
 case first =>
  cases hb : hasB h 4 with
  | false =>
   go_wp2
   go_meet
   rw [E4.out, if_neg (show ¬ hasB h 4 = true by rw [hb]; decide)]
   exact Go.Lib.hid (ST.out.set4 _)
  | true =>
   go_wp2
   go_meet
   rw [E4.out, if_pos hb]
   exact ST
 case rest =>
 clear c0 c1 c2 c3 c4 c5 c6 c7 c8 ST
 have ST := hcut
 clear hcut
 obtain ⟨c0, c1, c2, c3, c4, c5, c6, c7, c8⟩ := ST.out.b1.cells
 go_upto_if 25 with (go_at_call 58; refine (CH.out 5 (by decide) (by decide) _ _ _ _ _ _ _ _ _).mono ?_; rintro e x ⟨rfl, hx⟩; replace ST := Go.Lib.hid (ST.out.below hx); clear c0 c1 c2 c3 c4 c5 c6 c7 c8; obtain ⟨c0, c1, c2, c3, c4, c5, c6, c7, c8⟩ := ST.out.b1.cells; have ff := ST.out.b1.free; clear hx)
 go_cut [] from 23 (fun wx => Hid (PresSt w (.int .i64 (hasUpto h 8 : Nat)) (.int .i64 o1) (.slice Ap1 np1 cp1) (.int .u32 hp1) (.int .u32 md1) (.int .u32 pr1) (.int .u32 ag) (.int .u32 ai) (.slice Ac nc cc) wx))
 case first =>
  cases hb : hasB h 5 with
  | false =>
   go_wp2
   go_meet
   rw [E5.out, if_neg (show ¬ hasB h 5 = true by rw [hb]; decide)]
   exact Go.Lib.hid (ST.out.set5 _)
  | true =>
   go_wp2
   go_meet
   rw [E5.out, if_pos hb]
   exact ST
 case rest =>
 clear c0 c1 c2 c3 c4 c5 c6 c7 c8 ST
 have ST := hcut
 clear hcut
 obtain ⟨c0, c1, c2, c3, c4, c5, c6, c7, c8⟩ := ST.out.b1.cells
 go_upto_if 29 with (go_at_call 58; refine (CH.out 7 (by decide) (by decide) _ _ _ _ _ _ _ _ _).mono ?_; rintro e x ⟨rfl, hx⟩; replace ST := Go.Lib.hid (ST.out.below hx); clear c0 c1 c2 c3 c4 c5 c6 c7 c8; obtain ⟨c0, c1, c2, c3, c4, c5, c6, c7, c8⟩ := ST.out.b1.cells; have ff := ST.out.b1.free; clear hx)
 go_cut [] from 27 (fun wx => Hid (PresSt w (.int .i64 (hasUpto h 8 : Nat)) (.int .i64 o1) (.slice Ap1 np1 cp1) (.int .u32 hp1) (.int .u32 md1) (.int .u32 pr1) (.int .u32 ag1) (.int .u32 ai1) (.slice Ac nc cc) wx))
 case first =>
  cases hb : hasB h 7 with
  | false =>
   go_wp2
   go_meet
   rw [E6.out, if_neg (show ¬ hasB h 7 = true by rw [hb]; decide), E7.out, if_neg (show ¬ hasB h 7 = true by rw [hb]; decide)]
   exact Go.Lib.hid ((ST.out.set6 _).set7 _)
  | true =>
   go_wp2
   go_meet
   rw [E6.out, if_pos hb, E7.out, if_pos hb]
   exact ST
 case rest =>
 clear c0 c1 c2 c3 c4 c5 c6 c7 c8 ST
 have ST := hcut
 clear hcut
 obtain ⟨c0, c1, c2, c3, c4, c5, c6, c7, c8⟩ := ST.out.b1.cells
 go_upto_if 34 with (go_at_call 58; refine (CH.out 8 (by decide) (by decide) _ _ _ _ _ _ _ _ _).mono ?_; rintro e x ⟨rfl, hx⟩; replace ST := Go.Lib.hid (ST.out.below hx); clear c0 c1 c2 c3 c4 c5 c6 c7 c8; obtain ⟨c0, c1, c2, c3, c4, c5, c6, c7, c8⟩ := ST.out.b1.cells; have ff := ST.out.b1.free; clear hx)
 go_cut [] from 32 (fun wx => Hid (PresSt w (.int .i64 (hasUpto h 8 : Nat)) (.int .i64 o1) (.slice Ap1 np1 cp1) (.int .u32 hp1) (.int .u32 md1) (.int .u32 pr1) (.int .u32 ag1) (.int .u32 ai1) (.slice Ac1 nc1 cc1) wx))
 case first =>
  cases hb : hasB h 8 with
  | false =>
   go_wp2
   go_meet
   rw [E8.out, if_neg (show ¬ hasB h 8 = true by rw [hb]; decide)]
   exact Go.Lib.hid (ST.out.set8 _)
  | true =>
   go_wp2
   go_meet
   rw [E8.out, if_pos hb]
   exact ST
 case rest =>
 clear c0 c1 c2 c3 c4 c5 c6 c7 c8 ST
 have ST := hcut
 clear hcut
 obtain ⟨c0, c1, c2, c3, c4, c5, c6, c7, c8⟩ := ST.out.b1.cells
 obtain ⟨g0, g1, g2, g3, g4, g5, g6, g7, g8⟩ := ST.out.b2.cells
 have fg := ST.out.b2.free
 have B9 := (((((((((ST.out.b2.set0 (.int .i64 (hasUpto h 8 : Nat))).set1 (.int .i64 o1)).set2 (.slice Ap1 np1 cp1)).set3 (.int .u32 hp1)).set4 (.int .u32 md1)).set5 (.int .u32 pr1)).set6 (.int .u32 ag1)).set7 (.int .u32 ai1)).set8 (.slice Ac1 nc1 cc1))
 obtain ⟨r0, r1, r2, r3, r4, r5, r6, r7, r8⟩ := B9.cells
 go_wp2
 (try simp only [Exit.inBlock, Exit.then])
 refine bodyPost_ret (v := .agg #[.int .i64 (hasUpto h 8 : Nat), .int .i64 o1, .slice Ap1 np1 cp1, .int .u32 hp1, .int .u32 md1, .int .u32 pr1, .int .u32 ag1, .int .u32 ai1, .slice Ac1 nc1 cc1]) (by simp [results, Tryz.results68, go_sem, r0, r1, r2, r3, r4, r5, r6, r7, r8]) rfl ?_
 exact ⟨rfl, nine_low ST.out.low (w.heap.size + 1) (by omega) (.int .i64 (hasUpto h 8 : Nat)) (.int .i64 o1) (.slice Ap1 np1 cp1) (.int .u32 hp1) (.int .u32 md1) (.int .u32 pr1) (.int .u32 ag1) (.int .u32 ai1) (.slice Ac1 nc1 cc1)⟩
def presA (a : At) : At := ⟨(hasUpto a.has 8 : Nat), if hasB a.has 1 then a.origin else 0, if hasB a.has 2 then a.path else [], if hasB a.has 3 then a.hop else 0, if hasB a.has 4 then a.med else 0, if hasB a.has 5 then a.pref else 0, if hasB a.has 7 then a.aas else 0, if hasB a.has 7 then a.aid else 0, if hasB a.has 8 then a.comms else []⟩
theorem presA_ok {a : At} (h : a.ok) : (presA a).ok := by
 obtain ⟨h0, h1, h2, h3, h4, h5, h6⟩ := h
 unfold presA At.ok
 dsimp only
 have hu := hasUpto_le a.has 8
 refine ⟨?_, ?_, ?_, ?_, ?_, ?_, ?_⟩
 ·simp [Lit.wf, IntKind.min, IntKind.max, IntKind.signed, IntKind.bits]; omega
 ·split
  ·exact h1
  ·decide
 all_goals (split <;> first | assumption | omega)
theorem present_exact (v : Value) (a : At) (w : World) (hv : Attrs w v a) : ∃ v', Attrs w v' (presA a) ∧ ∀ W, Below w.heap.size w W → Calls Tryz.prog 68 #[v] W (Tells v' W) := by
 obtain ⟨hok, vp, vc, rfl, hP, hC⟩ := hv
 obtain ⟨Ap, cp, rfl, -, -⟩ := hP.form
 obtain ⟨Ac, cc, rfl, -, -, -, -⟩ := hC.open_
 obtain ⟨Ap1, np1, cp1, e1⟩ : ∃ A n c, Value.slice A n c = if hasB a.has 2 then .slice Ap a.path.length cp else .slice none 0 0 := by split <;> exact ⟨_, _, _, rfl⟩
 obtain ⟨Ac1, nc1, cc1, e2⟩ : ∃ A n c, Value.slice A n c = if hasB a.has 8 then .slice Ac a.comms.length cc else .slice none 0 0 := by split <;> exact ⟨_, _, _, rfl⟩
 refine ⟨_, ⟨presA_ok hok, .slice Ap1 np1 cp1, .slice Ac1 nc1 cc1, rfl, ?_, ?_⟩, fun W _ => pres8 a.has a.origin Ap Ac a.path.length cp a.comms.length cc a.hop a.med a.pref a.aas a.aid W _ Ap1 Ac1 np1 cp1 nc1 cc1 _ _ _ _ _ (Go.Lib.hid rfl) (Go.Lib.hid e1) (Go.Lib.hid rfl) (Go.Lib.hid rfl) (Go.Lib.hid rfl) (Go.Lib.hid rfl) (Go.Lib.hid rfl) (Go.Lib.hid e2)⟩
 ·rw [e1]
  unfold presA
  dsimp only
  split
  ·exact hP
  ·exact ⟨[], Row.nil _ 2, Nums32.nil _⟩
 ·rw [e2]
  unfold presA
  dsimp only
  split
  ·exact hC
  ·exact U32s.nil _
end Go.Proofs.YtlhdjdnflpilbaaGreatDoor.Att
namespace Go.Proofs.YtlhdjdnflpilbaaGreatDoor.Att
open Go.RowKit Mem Segm Oct
def wellN (h : Int) : No := if hasB h 1 = false then ⟨3, 3, [1]⟩ else if hasB h 2 = false then ⟨3, 3, [2]⟩ else if hasB h 3 = false then ⟨3, 3, [3]⟩ else ⟨0, 0, []⟩
theorem well_step {h : Int} {j : Nat} (hj : j < 3) (ha : ∀ k : Nat, 1 ≤ k → k ≤ j → hasB h (k : Int) = true) (hb : hasB h ((j + 1 : Nat) : Int) = false) : wellN h = ⟨3, 3, [j + 1]⟩ := by
 unfold wellN
 match j, hj with
 | 0, _ => rw [if_pos (show hasB h 1 = false from hb)]
 | 1, _ => rw [if_neg (by rw [show hasB h 1 = true from ha 1 (by omega) (by omega)]; decide), if_pos (show hasB h 2 = false from hb)]
 | 2, _ => rw [if_neg (by rw [show hasB h 1 = true from ha 1 (by omega) (by omega)]; decide), if_neg (by rw [show hasB h 2 = true from ha 2 (by omega) (by omega)]; decide), if_pos (show hasB h 3 = false from hb)]
theorem well_all {h : Int} (ha : ∀ k : Nat, 1 ≤ k → k ≤ 3 → hasB h (k : Int) = true) : wellN h = ⟨0, 0, []⟩ := by
 unfold wellN
 rw [if_neg (by rw [show hasB h 1 = true from ha 1 (by omega) (by omega)]; decide), if_neg (by rw [show hasB h 2 = true from ha 2 (by omega) (by omega)]; decide), if_neg (by rw [show hasB h 3 = true from ha 3 (by omega) (by omega)]; decide)]
set_option maxRecDepth 100000 in
set_option maxHeartbeats 4000000 in
theorem well_any (v : Value) (a : At) (w : World) (hv : Attrs w v a) : Calls Tryz.prog 28 #[v] w (fun e w' => ∃ v', e = .returned v' ∧ Note w' v' (wellN a.has) ∧ Below w.heap.size w w') := by
 obtain ⟨_, vp, vc, rfl, -, -⟩ := hv
 obtain ⟨h, o, p, hp, md, pr, ag, ai, cm⟩ := a
 dsimp only
 unfold acells
 dsimp only
 have H1 := Box9.new w 27 (.int .i64 h) (.int .i64 o) vp (.int .u32 hp) (.int .u32 md) (.int .u32 pr) (.int .u32 ag) (.int .u32 ai) vc
 have B1 : Below w.heap.size w (w.alloc (.cells #[.int .i64 h, .int .i64 o, vp, .int .u32 hp, .int .u32 md, .int .u32 pr, .int .u32 ag, .int .u32 ai, vc] 27)) := (Below.refl _ w).alloc (Nat.le_refl _) _
 have e1 : (w.alloc (.cells #[.int .i64 h, .int .i64 o, vp, .int .u32 hp, .int .u32 md, .int .u32 pr, .int .u32 ag, .int .u32 ai, vc] 27)).heap.size = w.heap.size + 1 := by simp
 have H2 := Box3.new (w.alloc (.cells #[.int .i64 h, .int .i64 o, vp, .int .u32 hp, .int .u32 md, .int .u32 pr, .int .u32 ag, .int .u32 ai, vc] 27)) 41 (.int .i64 0) (.int .i64 0) (.slice none 0 0)
 rw [e1] at H2
 have HX := Go.Lib.hid (And.intro (H1.keep ((Below.refl _ _).alloc (Nat.le_refl _) (.cells #[.int .i64 0, .int .i64 0, .slice none 0 0] 41))) (And.intro H2 (B1.alloc B1.size (.cells #[.int .i64 0, .int .i64 0, .slice none 0 0] 41))))
 have CH := Go.Lib.hid (fun (k : Nat) (hk : k ≤ 8) (W : World) => has_any h k (.int .i64 o) vp (.int .u32 hp) (.int .u32 md) (.int .u32 pr) (.int .u32 ag) (.int .u32 ai) vc W hk)
 clear H1 B1 e1 H2
 go_enter Tryz.func28, Tryz.ntmps28
 go_wp2
 go_loopw [3] (fun v3 wx => ∃ j : Nat, j ≤ 3 ∧ v3 = .int .i64 ((j + 1 : Nat) : Int) ∧ Hid (∀ k : Nat, 1 ≤ k → k ≤ j → hasB h (k : Int) = true) ∧ Hid (Box9 wx w.heap.size 27 (.int .i64 h) (.int .i64 o) vp (.int .u32 hp) (.int .u32 md) (.int .u32 pr) (.int .u32 ag) (.int .u32 ai) vc ∧ Box3 wx (w.heap.size + 1) 41 (.int .i64 0) (.int .i64 0) (.slice none 0 0) ∧ Below w.heap.size w wx)) (fun v3 _ => 5 - (intOf v3).toNat)
 case atStart => exact ⟨0, by omega, rfl, Go.Lib.hid (fun k h1 h2 => by omega), HX⟩
 case round =>
  obtain ⟨j, hj, rfl, hall, ST⟩ := hrel
  obtain ⟨c0, c1, c2, c3, c4, c5, c6, c7, c8⟩ := ST.out.1.cells
  by_cases hlt : j < 3
  ·have z1 : ((j + 1 : Nat) : Int) ≤ 3 := by omega
   cases hb : hasB h ((j + 1 : Nat) : Int) with
   | true =>
    have CHJ := Go.Lib.hid (fun W => CH.out (j + 1) (by omega) W)
    rw [hb] at CHJ
    have HA := Go.Lib.hid (show ∀ k : Nat, 1 ≤ k → k ≤ j + 1 → hasB h (k : Int) = true from fun k h1 h2 => by
     by_cases e : k = j + 1
     ·subst e; exact hb
     ·exact hall.out k h1 (by omega))
    clear hb
    go_wp2_with (go_at_call 58; refine (CHJ.out _).mono ?_; rintro e x ⟨rfl, hx⟩; have S2 := Go.Lib.hid (And.intro (ST.out.1.keep hx) (And.intro (ST.out.2.1.keep hx) (ST.out.2.2.trans (hx.mono ST.out.2.2.size)))); clear hx c0 c1 c2 c3 c4 c5 c6 c7 c8)
    go_roundw
    case rel => exact ⟨j + 1, by omega, by go_num, HA, S2⟩
    case measure => simp [intOf]; omega
   | false =>
    have CHJ := Go.Lib.hid (fun W => CH.out (j + 1) (by omega) W)
    rw [hb] at CHJ
    have HN := Go.Lib.hid (well_step hlt hall.out hb)
    have w8 : IntKind.u8.wrap ((j + 1 : Nat) : Int) = ((j + 1 : Nat) : Int) := by rw [IntKind.wrap_u8]; omega
    clear hb
    obtain ⟨jj, hjj⟩ : ∃ jj, jj = j + 1 := ⟨_, rfl⟩
    rw [← hjj] at CHJ HN w8 z1
    rw [← hjj]
    have hj4 : jj < 4 := by omega
    clear hlt hj hall hjj
    go_wp2_with (go_at_call 58; refine (CHJ.out _).mono ?_; rintro e x ⟨rfl, hx⟩; have S2 := Go.Lib.hid (And.intro (ST.out.1.keep hx) (And.intro (ST.out.2.1.keep hx) (ST.out.2.2.trans (hx.mono ST.out.2.2.size)))); have S3 := Go.Lib.hid (S2.out.2.1.keep ((Below.refl _ x).alloc (Nat.le_refl _) (.cells #[.int .u8 jj] 5))); clear hx c0 c1 c2 c3 c4 c5 c6 c7 c8; obtain ⟨d0, d1, d2⟩ := S3.out.cells; have ff := S3.out.free)
    (try simp only [Exit.inBlock, Exit.then])
    obtain ⟨r0, r1, r2⟩ := (S3.out.laid (.int .i64 3) (.int .i64 3) (.slice (some ⟨x.heap.size, 0, none⟩) 1 1)).cells
    unfold three at r0 r1 r2
    refine bodyPost_ret (v := .agg #[.int .i64 3, .int .i64 3, .slice (some ⟨x.heap.size, 0, none⟩) 1 1]) (by simp [results, Tryz.results28, go_sem, r0, r1, r2]) rfl ?_
    have hlt := S2.out.2.1.lt
    have hU : U8s (x.alloc (.cells #[.int .u8 jj] 5)) (.slice (some ⟨x.heap.size, 0, none⟩) 1 1) [jj] := lit8 _ _ _ _ (fun n hn => by rw [List.mem_singleton.1 hn]; omega) rfl rfl (by decide)
    have ho := three_off (x.alloc (.cells #[.int .u8 jj] 5)) (w.heap.size + 1) (.int .i64 3) (.int .i64 3) (.slice (some ⟨x.heap.size, 0, none⟩) 1 1)
    refine ⟨_, rfl, ?_, three_low (S2.out.2.2.alloc S2.out.2.2.size _) _ (by omega) _ _ _⟩
    rw [HN.out]
    exact ⟨show (Lit.int .i64 3).wf = true by decide, show (Lit.int .i64 3).wf = true by decide, _, rfl, hU.part (fun g hg => ho.1 g (by have hq : x.heap.size = g := Option.some.inj hg; omega)) ho.2⟩
  ·obtain rfl : j = 3 := by omega
   have HN := Go.Lib.hid (well_all hall.out)
   obtain ⟨d0, d1, d2⟩ := ST.out.2.1.cells
   have ff := ST.out.2.1.free
   go_wp2
   (try simp only [Exit.inBlock, Exit.then])
   obtain ⟨r0, r1, r2⟩ := (ST.out.2.1.laid (.int .i64 0) (.int .i64 0) (.slice none 0 0)).cells
   unfold three at r0 r1 r2
   refine bodyPost_ret (v := .agg #[.int .i64 0, .int .i64 0, .slice none 0 0]) (by simp [results, Tryz.results28, go_sem, r0, r1, r2]) rfl ?_
   refine ⟨_, rfl, ?_, three_low ST.out.2.2 _ (by omega) _ _ _⟩
   rw [HN.out]
   exact ⟨by decide, by decide, _, rfl, U8s.nil _⟩
end Go.Proofs.YtlhdjdnflpilbaaGreatDoor.Att
namespace Go.Proofs.YtlhdjdnflpilbaaGreatDoor.Att
open Go.RowKit Mem Segm Oct
theorem fours_take {m : List Nat} {j n : Nat} (h : m[j]? = some n) : fours (m.take (j + 1)) = fours (m.take j) ++ big n 4 := by
 rw [List.take_add_one, h, Option.toList_some, fours_append]
 simp [fours]
set_option maxHeartbeats 2000000 in
theorem putAll_any (v x : Value) (base : Nat) (l m : List Nat) (F0 : Nat → Prop) (s : World) (hW : Wr s base v l F0) (hx : ∀ W, Only F0 s W → U32s W x m) (hlen : l.length + 4 * m.length ≤ 800000) (hbase : base ≤ s.heap.size) :
  Calls Tryz.prog 94 #[v, x] s (fun e w' => e = .returned (.tuple #[]) ∧ ∃ F', Wst base v F0 s (l ++ fours m) F' w') := by
 have hx0 := hx s (Only.refl _ _)
 obtain ⟨A, c, rfl, hlc, hc, -, -⟩ := hx0.open_
 have HX := Go.Lib.hid hx
 have S0 := Go.Lib.hid (Wst.new hW)
 have HB := Go.Lib.hid hbase
 have CU := Go.Lib.hid (fun (n : Nat) (L : List Nat) (F : Nat → Prop) (W : World) (h : Wr W base v L F) (hl : L.length ≤ 900000) (hb : base ≤ W.heap.size) => w32_put v base L F n W h hl hb)
 clear hx hx0 hW
 go_enter Tryz.func94, Tryz.ntmps94
 go_wp2
 go_loopw [8] (fun v8 wx => ∃ (j : Nat) (F : Nat → Prop), j ≤ m.length ∧ v8 = .int .i64 j ∧ Hid (Wst base v F0 s (l ++ fours (m.take j)) F wx)) (fun v8 _ => m.length - (intOf v8).toNat)
 case atStart => exact ⟨0, F0, Nat.zero_le _, rfl, Go.Lib.hid (by rw [List.take_zero]; show Wst base v F0 s (l ++ []) F0 s; rw [List.append_nil]; exact S0.out)⟩
 case round =>
  obtain ⟨j, F, hj, rfl, ST⟩ := hrel
  by_cases hlt : j < m.length
  ·obtain ⟨b, off, n, rfl, hbl, hn, hn32, hcell⟩ := (HX.out _ ST.out.on).at_ hlt
   have z0 : (0 : Int) ≤ (j : Int) := by omega
   have z1 : (j : Int) < (m.length : Int) := by omega
   have HT := Go.Lib.hid (fours_take hn)
   have CN := Go.Lib.hid (CU.out n _ F wr ST.out.wr (by rw [List.length_append, fours_len, List.length_take]; omega) (Nat.le_trans HB.out ST.out.size))
   clear hn
   go_wp2_with (go_at_call 95; refine (CN.out).mono ?_; intro e w1 hA; obtain ⟨F2, rfl, hS⟩ := ST.out.add hA; have S2 := Go.Lib.hid hS; clear hA hS)
   go_roundw
   case rel =>
    refine ⟨j + 1, F2, hlt, by go_num, Go.Lib.hid ?_⟩
    rw [HT.out, ← put4, ← List.append_assoc]
    exact S2.out
   case measure => simp [intOf]; omega
  ·obtain rfl : j = m.length := by omega
   have z1 : decide ((m.length : Int) < (m.length : Int)) = false := by simp
   rw [List.take_length] at ST
   go_wp2
   go_end0
   exact ⟨rfl, F, ST.out⟩
end Go.Proofs.YtlhdjdnflpilbaaGreatDoor.Att
namespace Go.Proofs.YtlhdjdnflpilbaaGreatDoor.Att
open Go.RowKit Mem Segm Oct
structure ValSt (w0 : World) (P : Value) (B : Nat) (x0 x1 x2 x3 x4 x5 x6 x7 x8 : Value) (l : List Nat) (F : Nat → Prop) (W : World) : Prop where
 wr : Wr W w0.heap.size P l F
 nb : ¬ F B
 b9 : Box9 W B 27 x0 x1 x2 x3 x4 x5 x6 x7 x8
 low : Below w0.heap.size w0 W
section
variable {w0 W W2 : World} {P v : Value} {B : Nat} {x0 x1 x2 x3 x4 x5 x6 x7 x8 : Value} {l l2 : List Nat} {F F2 : Nat → Prop} {e : Ending}
theorem ValSt.below (h : ValSt w0 P B x0 x1 x2 x3 x4 x5 x6 x7 x8 l F W) (hb : Below W.heap.size W W2) : ValSt w0 P B x0 x1 x2 x3 x4 x5 x6 x7 x8 l F W2 :=
 ⟨h.wr.below hb, h.nb, h.b9.keep hb, h.low.trans (hb.mono h.low.size)⟩
theorem ValSt.wst (h : ValSt w0 P B x0 x1 x2 x3 x4 x5 x6 x7 x8 l F W) (k : Wst w0.heap.size P F W l2 F2 W2) : ValSt w0 P B x0 x1 x2 x3 x4 x5 x6 x7 x8 l2 F2 W2 := by
 refine ⟨k.wr, fun hf => ?_, ⟨(k.on.block B h.b9.lt h.nb).trans h.b9.blk⟩, h.low.trans (k.on.below (fun j hj => (h.wr.lt j hj).1) h.low.size)⟩
 rcases k.gr B hf with q | q
 ·exact h.nb q
 ·have := h.b9.lt; omega
theorem ValSt.add (h : ValSt w0 P B x0 x1 x2 x3 x4 x5 x6 x7 x8 l F W) (k : AddF w0.heap.size P v l2 F W e W2) : ∃ F2, e = .returned v ∧ ValSt w0 P B x0 x1 x2 x3 x4 x5 x6 x7 x8 l2 F2 W2 := by
 obtain ⟨F2, h1, h2⟩ := (Wst.new h.wr).add k
 exact ⟨F2, h1, h.wst h2⟩
end
theorem val_start (w : World) (x0 x1 x2 x3 x4 x5 x6 x7 x8 : Value) : ValSt w (.pointer (some ⟨w.heap.size + 1, 0, none⟩)) w.heap.size x0 x1 x2 x3 x4 x5 x6 x7 x8 [] (fun k => k = w.heap.size + 1) ((w.alloc (.cells #[x0, x1, x2, x3, x4, x5, x6, x7, x8] 27)).alloc (.cells #[.slice none 0 0] 52)) := by
 have h1 := Box9.new w 27 x0 x1 x2 x3 x4 x5 x6 x7 x8
 have b1 : Below w.heap.size w (w.alloc (.cells #[x0, x1, x2, x3, x4, x5, x6, x7, x8] 27)) := (Below.refl _ w).alloc (Nat.le_refl _) _
 have e1 : (w.alloc (.cells #[x0, x1, x2, x3, x4, x5, x6, x7, x8] 27)).heap.size = w.heap.size + 1 := by simp
 have h2 := wr_zero (w.alloc (.cells #[x0, x1, x2, x3, x4, x5, x6, x7, x8] 27)) (base := w.heap.size) b1.size
 rw [e1] at h2
 exact ⟨h2, by show ¬ _ = _; omega, h1.keep ((Below.refl _ _).alloc (Nat.le_refl _) _), b1.alloc b1.size _⟩
set_option maxRecDepth 100000 in
set_option maxHeartbeats 2000000 in
theorem pval1 (h o : Int) (vp vc : Value) (hp md pr ag ai : Nat) (w : World) : Calls Tryz.prog 60 #[.agg #[.int .i64 h, .int .i64 o, vp, .int .u32 hp, .int .u32 md, .int .u32 pr, .int .u32 ag, .int .u32 ai, vc], .int .i64 1] w (Gives8 ([lo8 o]) w) := by
 have ST := Go.Lib.hid (val_start w (.int .i64 h) (.int .i64 o) (vp) (.int .u32 hp) (.int .u32 md) (.int .u32 pr) (.int .u32 ag) (.int .u32 ai) (vc))
 obtain ⟨c0, c1, c2, c3, c4, c5, c6, c7, c8⟩ := ST.out.b9.cells
 go_enter Tryz.func60, Tryz.ntmps60
 go_wp2_with (first
  | (go_at_call 56; (refine (w8_put _ _ [] _ o _ ST.out.wr (by simp) ST.out.low.size).mono ?_; intro e x hA; obtain ⟨F2, rfl, hS⟩ := ST.out.add hA; replace ST := Go.Lib.hid hS; clear c0 c1 c2 c3 c4 c5 c6 c7 c8; obtain ⟨c0, c1, c2, c3, c4, c5, c6, c7, c8⟩ := ST.out.b9.cells; clear hA hS))
  | (go_at_call 24; refine (wbytes_any _ _ _ _ _ ST.out.wr (by simp)).mono ?_; rintro e y ⟨A1, c1, rfl, ho, hy⟩; have HO := Go.Lib.hid (own_base ho ST.out.low.size); have HY := Go.Lib.hid (ST.out.low.trans (hy.mono ST.out.low.size)); clear ho hy))
 go_ret
 exact ⟨A1, c1, rfl, HO.out, HY.out⟩
set_option maxRecDepth 100000 in
set_option maxHeartbeats 2000000 in
theorem pval3 (h o : Int) (vp vc : Value) (hp md pr ag ai : Nat) (w : World) : Calls Tryz.prog 60 #[.agg #[.int .i64 h, .int .i64 o, vp, .int .u32 hp, .int .u32 md, .int .u32 pr, .int .u32 ag, .int .u32 ai, vc], .int .i64 3] w (Gives8 (big hp 4) w) := by
 have ST := Go.Lib.hid (val_start w (.int .i64 h) (.int .i64 o) (vp) (.int .u32 hp) (.int .u32 md) (.int .u32 pr) (.int .u32 ag) (.int .u32 ai) (vc))
 obtain ⟨c0, c1, c2, c3, c4, c5, c6, c7, c8⟩ := ST.out.b9.cells
 have HE := Go.Lib.hid (put4 hp)
 rw [← HE.out]
 go_enter Tryz.func60, Tryz.ntmps60
 go_wp2_with (first
  | (go_at_call 95; (refine (w32_put _ _ [] _ hp _ ST.out.wr (by simp) ST.out.low.size).mono ?_; intro e x hA; obtain ⟨F2, rfl, hS⟩ := ST.out.add hA; replace ST := Go.Lib.hid hS; clear c0 c1 c2 c3 c4 c5 c6 c7 c8; obtain ⟨c0, c1, c2, c3, c4, c5, c6, c7, c8⟩ := ST.out.b9.cells; clear hA hS))
  | (go_at_call 24; refine (wbytes_any _ _ _ _ _ ST.out.wr (by simp)).mono ?_; rintro e y ⟨A1, c1, rfl, ho, hy⟩; have HO := Go.Lib.hid (own_base ho ST.out.low.size); have HY := Go.Lib.hid (ST.out.low.trans (hy.mono ST.out.low.size)); clear ho hy))
 go_ret
 exact ⟨A1, c1, rfl, HO.out, HY.out⟩
set_option maxRecDepth 100000 in
set_option maxHeartbeats 2000000 in
theorem pval4 (h o : Int) (vp vc : Value) (hp md pr ag ai : Nat) (w : World) : Calls Tryz.prog 60 #[.agg #[.int .i64 h, .int .i64 o, vp, .int .u32 hp, .int .u32 md, .int .u32 pr, .int .u32 ag, .int .u32 ai, vc], .int .i64 4] w (Gives8 (big md 4) w) := by
 have ST := Go.Lib.hid (val_start w (.int .i64 h) (.int .i64 o) (vp) (.int .u32 hp) (.int .u32 md) (.int .u32 pr) (.int .u32 ag) (.int .u32 ai) (vc))
 obtain ⟨c0, c1, c2, c3, c4, c5, c6, c7, c8⟩ := ST.out.b9.cells
 have HE := Go.Lib.hid (put4 md)
 rw [← HE.out]
 go_enter Tryz.func60, Tryz.ntmps60
 go_wp2_with (first
  | (go_at_call 95; (refine (w32_put _ _ [] _ md _ ST.out.wr (by simp) ST.out.low.size).mono ?_; intro e x hA; obtain ⟨F2, rfl, hS⟩ := ST.out.add hA; replace ST := Go.Lib.hid hS; clear c0 c1 c2 c3 c4 c5 c6 c7 c8; obtain ⟨c0, c1, c2, c3, c4, c5, c6, c7, c8⟩ := ST.out.b9.cells; clear hA hS))
  | (go_at_call 24; refine (wbytes_any _ _ _ _ _ ST.out.wr (by simp)).mono ?_; rintro e y ⟨A1, c1, rfl, ho, hy⟩; have HO := Go.Lib.hid (own_base ho ST.out.low.size); have HY := Go.Lib.hid (ST.out.low.trans (hy.mono ST.out.low.size)); clear ho hy))
 go_ret
 exact ⟨A1, c1, rfl, HO.out, HY.out⟩
set_option maxRecDepth 100000 in
set_option maxHeartbeats 2000000 in
theorem pval5 (h o : Int) (vp vc : Value) (hp md pr ag ai : Nat) (w : World) : Calls Tryz.prog 60 #[.agg #[.int .i64 h, .int .i64 o, vp, .int .u32 hp, .int .u32 md, .int .u32 pr, .int .u32 ag, .int .u32 ai, vc], .int .i64 5] w (Gives8 (big pr 4) w) := by
 have ST := Go.Lib.hid (val_start w (.int .i64 h) (.int .i64 o) (vp) (.int .u32 hp) (.int .u32 md) (.int .u32 pr) (.int .u32 ag) (.int .u32 ai) (vc))
 obtain ⟨c0, c1, c2, c3, c4, c5, c6, c7, c8⟩ := ST.out.b9.cells
 have HE := Go.Lib.hid (put4 pr)
 rw [← HE.out]
 go_enter Tryz.func60, Tryz.ntmps60
 go_wp2_with (first
  | (go_at_call 95; (refine (w32_put _ _ [] _ pr _ ST.out.wr (by simp) ST.out.low.size).mono ?_; intro e x hA; obtain ⟨F2, rfl, hS⟩ := ST.out.add hA; replace ST := Go.Lib.hid hS; clear c0 c1 c2 c3 c4 c5 c6 c7 c8; obtain ⟨c0, c1, c2, c3, c4, c5, c6, c7, c8⟩ := ST.out.b9.cells; clear hA hS))
  | (go_at_call 24; refine (wbytes_any _ _ _ _ _ ST.out.wr (by simp)).mono ?_; rintro e y ⟨A1, c1, rfl, ho, hy⟩; have HO := Go.Lib.hid (own_base ho ST.out.low.size); have HY := Go.Lib.hid (ST.out.low.trans (hy.mono ST.out.low.size)); clear ho hy))
 go_ret
 exact ⟨A1, c1, rfl, HO.out, HY.out⟩
set_option maxRecDepth 100000 in
set_option maxHeartbeats 2000000 in
theorem pval6 (h o : Int) (vp vc : Value) (hp md pr ag ai : Nat) (w : World) : Calls Tryz.prog 60 #[.agg #[.int .i64 h, .int .i64 o, vp, .int .u32 hp, .int .u32 md, .int .u32 pr, .int .u32 ag, .int .u32 ai, vc], .int .i64 6] w (Gives8 ([]) w) := by
 have ST := Go.Lib.hid (val_start w (.int .i64 h) (.int .i64 o) (vp) (.int .u32 hp) (.int .u32 md) (.int .u32 pr) (.int .u32 ag) (.int .u32 ai) (vc))
 obtain ⟨c0, c1, c2, c3, c4, c5, c6, c7, c8⟩ := ST.out.b9.cells
 go_enter Tryz.func60, Tryz.ntmps60
 go_wp2_with (first
  | (go_at_call 24; refine (wbytes_any _ _ _ _ _ ST.out.wr (by simp)).mono ?_; rintro e y ⟨A1, c1, rfl, ho, hy⟩; have HO := Go.Lib.hid (own_base ho ST.out.low.size); have HY := Go.Lib.hid (ST.out.low.trans (hy.mono ST.out.low.size)); clear ho hy))
 go_ret
 exact ⟨A1, c1, rfl, HO.out, HY.out⟩
set_option maxRecDepth 100000 in
set_option maxHeartbeats 2000000 in
theorem pval7 (h o : Int) (vp vc : Value) (hp md pr ag ai : Nat) (w : World) : Calls Tryz.prog 60 #[.agg #[.int .i64 h, .int .i64 o, vp, .int .u32 hp, .int .u32 md, .int .u32 pr, .int .u32 ag, .int .u32 ai, vc], .int .i64 7] w (Gives8 (big ag 4 ++ big ai 4) w) := by
 have ST := Go.Lib.hid (val_start w (.int .i64 h) (.int .i64 o) (vp) (.int .u32 hp) (.int .u32 md) (.int .u32 pr) (.int .u32 ag) (.int .u32 ai) (vc))
 obtain ⟨c0, c1, c2, c3, c4, c5, c6, c7, c8⟩ := ST.out.b9.cells
 have HE := Go.Lib.hid (put4 ag)
 have HF := Go.Lib.hid (put4 ai)
 rw [← HE.out, ← HF.out]
 go_enter Tryz.func60, Tryz.ntmps60
 go_wp2
 have D0 := Go.Lib.hid (ST.out.below (Below.refl _ _).drew)
 clear c0 c1 c2 c3 c4 c5 c6 c7 c8
 obtain ⟨-, -, -, -, -, -, c6, c7, -⟩ := D0.out.b9.cells
 have CA := Go.Lib.hid (fun W (F : Nat → Prop) (h : ValSt w (.pointer (some ⟨w.heap.size + 1, 0, none⟩)) w.heap.size (.int .i64 h) (.int .i64 o) (vp) (.int .u32 hp) (.int .u32 md) (.int .u32 pr) (.int .u32 ag) (.int .u32 ai) (vc) [] F W) => w32_put _ _ [] F ag W h.wr (by simp) h.low.size)
 have CB := Go.Lib.hid (fun W (F : Nat → Prop) (l : List Nat) (hl : l.length ≤ 100) (h : ValSt w (.pointer (some ⟨w.heap.size + 1, 0, none⟩)) w.heap.size (.int .i64 h) (.int .i64 o) (vp) (.int .u32 hp) (.int .u32 md) (.int .u32 pr) (.int .u32 ag) (.int .u32 ai) (vc) l F W) => w32_put _ _ l F ai W h.wr (by omega) h.low.size)
 go_region_held3 (fun w' => w'.cell? ⟨w.heap.size, 6, none⟩ = some (.int .u32 ag) ∧ w'.cell? ⟨w.heap.size, 7, none⟩ = some (.int .u32 ai)) (exact ⟨by assumption, by assumption⟩) (first
  | (have hq := D0.out; go_at_call 95; refine (CA.out _ _ hq).mono ?_; intro e x hA; obtain ⟨F2, rfl, hS⟩ := hq.add hA; have ST1 := Go.Lib.hid hS; clear hA hS c6 c7 hq D0; obtain ⟨-, -, -, -, -, -, c6, c7, -⟩ := ST1.out.b9.cells)
  | (have hq := ST1.out; go_at_call 95; refine (CB.out _ _ _ (by simp) hq).mono ?_; intro e x hA; obtain ⟨F3, rfl, hS⟩ := hq.add hA; have ST2 := Go.Lib.hid hS; clear hA hS c6 c7 hq ST1; obtain ⟨-, -, -, -, -, -, c6, c7, -⟩ := ST2.out.b9.cells))
 replace ST := ST2
 go_wp2_with (first
  | (go_at_call 24; refine (wbytes_any _ _ _ _ _ ST.out.wr (by simp)).mono ?_; rintro e y ⟨A1, c1, rfl, ho, hy⟩; have HO := Go.Lib.hid (own_base ho ST.out.low.size); have HY := Go.Lib.hid (ST.out.low.trans (hy.mono ST.out.low.size)); clear ho hy))
 go_ret
 exact ⟨A1, c1, rfl, HO.out, HY.out⟩
set_option maxRecDepth 100000 in
set_option maxHeartbeats 2000000 in
theorem pval8 (h o : Int) (vp vc : Value) (hp md pr ag ai : Nat) (w : World) (cm : List Nat) (hC : U32s w vc cm) (hl : cm.length ≤ 100000) : Calls Tryz.prog 60 #[.agg #[.int .i64 h, .int .i64 o, vp, .int .u32 hp, .int .u32 md, .int .u32 pr, .int .u32 ag, .int .u32 ai, vc], .int .i64 8] w (Gives8 (fours cm) w) := by
 have ST := Go.Lib.hid (val_start w (.int .i64 h) (.int .i64 o) (vp) (.int .u32 hp) (.int .u32 md) (.int .u32 pr) (.int .u32 ag) (.int .u32 ai) (vc))
 obtain ⟨c0, c1, c2, c3, c4, c5, c6, c7, c8⟩ := ST.out.b9.cells
 have HC := Go.Lib.hid hC
 have HL := Go.Lib.hid hl
 clear hC hl
 go_enter Tryz.func60, Tryz.ntmps60
 go_wp2_with (first
  | (go_at_call 94; (refine (putAll_any _ _ _ [] cm _ _ ST.out.wr (fun W' ho => HC.out.keep (ST.out.low.trans (ho.below (fun k hk => (ST.out.wr.lt k hk).1) ST.out.low.size))) (by have := HL.out; simp; omega) ST.out.low.size).mono ?_; rintro e x ⟨rfl, F2, hS⟩; replace ST := Go.Lib.hid (ST.out.wst hS); clear hS c0 c1 c2 c3 c4 c5 c6 c7 c8))
  | (go_at_call 24; (refine (wbytes_any _ _ _ _ _ ST.out.wr (by have := HL.out; rw [List.nil_append, fours_len]; omega)).mono ?_; rintro e y ⟨A1, c1, rfl, ho, hy⟩; have HO := Go.Lib.hid (own_base ho ST.out.low.size); have HY := Go.Lib.hid (ST.out.low.trans (hy.mono ST.out.low.size)); clear ho hy)))
 go_ret
 exact ⟨A1, c1, rfl, HO.out, HY.out⟩
structure SegSt (w0 : World) (P : Value) (B : Nat) (x0 x1 x2 x3 x4 x5 x6 x7 x8 : Value) (C : Nat) (k x : Value) (l : List Nat) (F : Nat → Prop) (W : World) : Prop where
 v : ValSt w0 P B x0 x1 x2 x3 x4 x5 x6 x7 x8 l F W
 n2 : ¬ F C
 blk : W.heap[C]? = some (.cells #[k, x] 117)
section
variable {w0 W W2 : World} {P v : Value} {B C : Nat} {x0 x1 x2 x3 x4 x5 x6 x7 x8 k x : Value} {l l2 : List Nat} {F F2 : Nat → Prop} {e : Ending}
theorem SegSt.lt (h : SegSt w0 P B x0 x1 x2 x3 x4 x5 x6 x7 x8 C k x l F W) : C < W.heap.size := (Array.getElem?_eq_some_iff.1 h.blk).1
theorem SegSt.below (h : SegSt w0 P B x0 x1 x2 x3 x4 x5 x6 x7 x8 C k x l F W) (hb : Below W.heap.size W W2) : SegSt w0 P B x0 x1 x2 x3 x4 x5 x6 x7 x8 C k x l F W2 :=
 ⟨h.v.below hb, h.n2, (hb.block C h.lt).trans h.blk⟩
theorem SegSt.wst (h : SegSt w0 P B x0 x1 x2 x3 x4 x5 x6 x7 x8 C k x l F W) (q : Wst w0.heap.size P F W l2 F2 W2) : SegSt w0 P B x0 x1 x2 x3 x4 x5 x6 x7 x8 C k x l2 F2 W2 := by
 refine ⟨h.v.wst q, fun hf => ?_, (q.on.block C h.lt h.n2).trans h.blk⟩
 rcases q.gr C hf with r | r
 ·exact h.n2 r
 ·have := h.lt; omega
theorem SegSt.add (h : SegSt w0 P B x0 x1 x2 x3 x4 x5 x6 x7 x8 C k x l F W) (q : AddF w0.heap.size P v l2 F W e W2) : ∃ F2, e = .returned v ∧ SegSt w0 P B x0 x1 x2 x3 x4 x5 x6 x7 x8 C k x l2 F2 W2 := by
 obtain ⟨F2, h1, h2⟩ := (Wst.new h.v.wr).add q
 exact ⟨F2, h1, h.wst h2⟩
theorem SegSt.cells (h : SegSt w0 P B x0 x1 x2 x3 x4 x5 x6 x7 x8 C k x l F W) : W.cell? ⟨C, 0, none⟩ = some k ∧ W.cell? ⟨C, 1, none⟩ = some x := cell0 h.blk
theorem SegSt.start (h : ValSt w0 P B x0 x1 x2 x3 x4 x5 x6 x7 x8 l F W) : SegSt w0 P B x0 x1 x2 x3 x4 x5 x6 x7 x8 W.heap.size k x l F (W.alloc (.cells #[k, x] 117)) :=
 ⟨h.below ((Below.refl _ _).alloc (Nat.le_refl _) _), fun hf => by have := (h.wr.lt _ hf).2; omega, heap_alloc_new _ _⟩
end
theorem pathB_take {p : List Piece} {j : Nat} {s : Piece} (h : p[j]? = some s) : pathB (p.take (j + 1)) = pathB (p.take j) ++ segB s := by
 rw [List.take_add_one, h, Option.toList_some, pathB_append]
 simp [pathB]
set_option maxRecDepth 100000 in
set_option maxHeartbeats 2000000 in
theorem pval2 (h o : Int) (vp vc : Value) (hp md pr ag ai : Nat) (w : World) (p : List Piece) (hP : Segs w vp p) (hp1 : p.length ≤ 10000) (hp2 : lens p ≤ 20000) : Calls Tryz.prog 60 #[.agg #[.int .i64 h, .int .i64 o, vp, .int .u32 hp, .int .u32 md, .int .u32 pr, .int .u32 ag, .int .u32 ai, vc], .int .i64 2] w (Gives8 (pathB p) w) := by
 have ST := Go.Lib.hid (val_start w (.int .i64 h) (.int .i64 o) (vp) (.int .u32 hp) (.int .u32 md) (.int .u32 pr) (.int .u32 ag) (.int .u32 ai) (vc))
 obtain ⟨c0, c1, c2, c3, c4, c5, c6, c7, c8⟩ := ST.out.b9.cells
 have HP := Go.Lib.hid hP
 have HL := Go.Lib.hid (And.intro hp1 hp2)
 obtain ⟨Ap, cp, rfl, -, -⟩ := hP.form
 clear hP hp1 hp2
 go_enter Tryz.func60, Tryz.ntmps60
 go_wp2
 clear c0 c1 c2 c3 c4 c5 c6 c7 c8
 go_loopw [19] (fun v19 wx => ∃ (j : Nat) (F : Nat → Prop), j ≤ p.length ∧ v19 = .int .i64 j ∧ Hid (ValSt w (.pointer (some ⟨w.heap.size + 1, 0, none⟩)) w.heap.size (.int .i64 h) (.int .i64 o) (.slice Ap p.length cp) (.int .u32 hp) (.int .u32 md) (.int .u32 pr) (.int .u32 ag) (.int .u32 ai) (vc) (pathB (p.take j)) F wx)) (fun v19 _ => p.length - (intOf v19).toNat)
 case atStart => exact ⟨0, _, Nat.zero_le _, rfl, ST⟩
 case round =>
  obtain ⟨j, F, hj, rfl, SJ⟩ := hrel
  have hpl := HL.out.1
  by_cases hlt : j < p.length
  ·obtain ⟨sg, hs⟩ : ∃ s, p[j]? = some s := ⟨_, List.getElem?_eq_getElem hlt⟩
   obtain ⟨b, off, x, e', hbl, k1, k2, hx⟩ := HP.out.at_ hs
   subst e'
   replace k1 := keeps SJ.out.low k1
   replace k2 := keeps SJ.out.low k2
   obtain ⟨Ax, cx, rfl, -, -, -, -⟩ := hx.open_
   have HT := Go.Lib.hid (pathB_take hs)
   have HX := Go.Lib.hid hx
   have HLN := Go.Lib.hid (show (pathB (p.take j)).length ≤ 100000 by
    have h1 := pathB_len (p.take j)
    have h2 := lens_take_le p j
    have h3 := HL.out
    rw [h1, List.length_take]
    omega)
   have HSN := Go.Lib.hid (show sg.2.length ≤ 20000 by
    have h1 := lens_take hs
    have h2 := lens_take_le p (j + 1)
    have h3 := HL.out
    omega)
   obtain ⟨m, hm⟩ : ∃ m, m = sg.2.length := ⟨_, rfl⟩
   obtain ⟨ks, hks⟩ : ∃ ks, ks = sg.1 := ⟨_, rfl⟩
   have HSB := Go.Lib.hid (show segB sg = [lo8 ks] ++ ([lo8 (m : Int)] ++ fours sg.2) by rw [hm, hks]; rfl)
   rw [← hm] at k2 HX
   rw [← hks] at k1
   have z0 : (0 : Int) ≤ (j : Int) := by omega
   have z1 : (j : Int) < (p.length : Int) := by omega
   have G0 := Go.Lib.hid ((SegSt.start SJ.out (k := .int .i64 ks) (x := .slice Ax m cx)).below (Below.refl _ _).drew)
   obtain ⟨q0, q1⟩ := G0.out.cells
   clear hs hx hm hks
   go_wp2
   have CA := Go.Lib.hid (fun W (F : Nat → Prop) (l : List Nat) (n : Int) (hl : l.length ≤ 700000) (h : Wr W w.heap.size (.pointer (some ⟨w.heap.size + 1, 0, none⟩)) l F) (hb : w.heap.size ≤ W.heap.size) => w8_put _ _ l F n W h (by omega) hb)
   go_region_held3 (fun w' => w'.cell? ⟨wr.heap.size, 0, none⟩ = some (.int .i64 ks) ∧ w'.cell? ⟨wr.heap.size, 1, none⟩ = some (.slice Ax m cx)) (exact ⟨by assumption, by assumption⟩) (first
    | (have hq := G0.out; go_at_call 56; refine (CA.out _ _ _ _ (by have := HLN.out; omega) hq.v.wr hq.v.low.size).mono ?_; intro e x hA; obtain ⟨F2, rfl, hS⟩ := hq.add hA; have G1 := Go.Lib.hid hS; clear hA hS q0 q1 hq G0; obtain ⟨q0, q1⟩ := G1.out.cells)
    | (have hq := G1.out; go_at_call 56; refine (CA.out _ _ _ _ (by have := HLN.out; simp; omega) hq.v.wr hq.v.low.size).mono ?_; intro e x hA; obtain ⟨F3, rfl, hS⟩ := hq.add hA; have G2 := Go.Lib.hid hS; clear hA hS q0 q1 hq G1; obtain ⟨q0, q1⟩ := G2.out.cells))
   go_wp2_with (go_at_call 94; (refine (putAll_any _ _ _ _ sg.2 _ _ G2.out.v.wr (fun W' ho => HX.out.keep (G2.out.v.low.trans (ho.below (fun k hk => (G2.out.v.wr.lt k hk).1) G2.out.v.low.size))) (by have h1 := HLN.out; have h2 := HSN.out; simp; omega) G2.out.v.low.size).mono ?_; rintro e x ⟨rfl, F4, hS⟩; have G3 := Go.Lib.hid (G2.out.v.wst hS); clear hS q0 q1 G2))
   go_roundw
   case rel =>
    refine ⟨j + 1, F4, hlt, by go_num, Go.Lib.hid ?_⟩
    rw [HT.out, HSB.out, ← List.append_assoc, ← List.append_assoc]
    exact G3.out
   case measure => simp [intOf]; omega
  ·obtain rfl : j = p.length := by omega
   have z1 : decide ((p.length : Int) < (p.length : Int)) = false := by simp
   rw [List.take_length] at SJ
   go_wp2_with (go_at_call 24; (refine (wbytes_any _ _ _ _ _ SJ.out.wr (by have := HL.out; rw [pathB_len]; omega)).mono ?_; rintro e y ⟨A1, c1, rfl, ho, hy⟩; have HO := Go.Lib.hid (own_base ho SJ.out.low.size); have HY := Go.Lib.hid (SJ.out.low.trans (hy.mono SJ.out.low.size)); clear ho hy))
   go_ret
   exact ⟨A1, c1, rfl, HO.out, HY.out⟩
end Go.Proofs.YtlhdjdnflpilbaaGreatDoor.Att
namespace Go.Proofs.YtlhdjdnflpilbaaGreatDoor.Att
open Go.RowKit Mem Segm Oct
theorem value_any (v : Value) (a : At) (k : Nat) (w : World) (hv : Attrs w v a) (h1 : 1 ≤ k) (h8 : k ≤ 8) (hp1 : a.path.length ≤ 10000) (hp2 : lens a.path ≤ 20000) (hc : a.comms.length ≤ 100000) :
  Calls Tryz.prog 60 #[v, .int .i64 k] w (Gives8 (valB a k) w) := by
 obtain ⟨_, vp, vc, rfl, hP, hC⟩ := hv
 have hk : k = 1 ∨ k = 2 ∨ k = 3 ∨ k = 4 ∨ k = 5 ∨ k = 6 ∨ k = 7 ∨ k = 8 := by omega
 rcases hk with rfl | rfl | rfl | rfl | rfl | rfl | rfl | rfl
 ·exact pval1 a.has a.origin vp vc a.hop a.med a.pref a.aas a.aid w
 ·exact pval2 a.has a.origin vp vc a.hop a.med a.pref a.aas a.aid w a.path hP hp1 hp2
 ·exact pval3 a.has a.origin vp vc a.hop a.med a.pref a.aas a.aid w
 ·exact pval4 a.has a.origin vp vc a.hop a.med a.pref a.aas a.aid w
 ·exact pval5 a.has a.origin vp vc a.hop a.med a.pref a.aas a.aid w
 ·exact pval6 a.has a.origin vp vc a.hop a.med a.pref a.aas a.aid w
 ·exact pval7 a.has a.origin vp vc a.hop a.med a.pref a.aas a.aid w
 ·exact pval8 a.has a.origin vp vc a.hop a.med a.pref a.aas a.aid w a.comms hC hc
structure ItSt (base : Nat) (P : Value) (F0 : Nat → Prop) (s : World) (C : Nat) (x0 x1 x2 : Value) (l : List Nat) (F : Nat → Prop) (W : World) : Prop where
 ws : Wst base P F0 s l F W
 nf : ¬ F C
 bx : Box3 W C 90 x0 x1 x2
section
variable {base C : Nat} {P v x0 x1 x2 : Value} {F0 F F2 : Nat → Prop} {s W W2 : World} {l l2 : List Nat} {e : Ending}
theorem ItSt.below (h : ItSt base P F0 s C x0 x1 x2 l F W) (hb : Below W.heap.size W W2) : ItSt base P F0 s C x0 x1 x2 l F W2 := ⟨h.ws.below hb, h.nf, h.bx.keep hb⟩
theorem ItSt.wst (h : ItSt base P F0 s C x0 x1 x2 l F W) (k : Wst base P F W l2 F2 W2) : ItSt base P F0 s C x0 x1 x2 l2 F2 W2 := by
 refine ⟨h.ws.then_ k, fun hf => ?_, ⟨(k.on.block C h.bx.lt h.nf).trans h.bx.blk⟩⟩
 rcases k.gr C hf with q | q
 ·exact h.nf q
 ·have := h.bx.lt; omega
theorem ItSt.add (h : ItSt base P F0 s C x0 x1 x2 l F W) (k : AddF base P v l2 F W e W2) : ∃ F2, e = .returned v ∧ ItSt base P F0 s C x0 x1 x2 l2 F2 W2 := by
 obtain ⟨F2, h1, h2⟩ := (Wst.new h.ws.wr).add k
 exact ⟨F2, h1, h.wst h2⟩
theorem ItSt.start (h : Wr s base P l F) (x0 x1 x2 : Value) : ItSt base P F s s.heap.size x0 x1 x2 l F (s.alloc (.cells #[x0, x1, x2] 90)) :=
 ⟨(Wst.new h).below ((Below.refl _ _).alloc (Nat.le_refl _) _), fun hf => by have := (h.lt _ hf).2; omega, Box3.new _ _ _ _ _⟩
end
theorem lo8_byte {n : Nat} (h : n < 256) : lo8 (n : Int) = n := by unfold lo8; omega
theorem item_short {f k : Nat} {m : List Nat} (h : ¬ f / 16 % 2 = 1) (hf : f < 256) (hk : k < 256) (hm : m.length ≤ 255) : itemB f k m = [lo8 (f : Int)] ++ ([lo8 (k : Int)] ++ sizedS m) := by
 unfold itemB sizedS
 rw [if_neg h, if_pos hm, lo8_byte hf, lo8_byte hk, lo8_byte (by omega)]
 rfl
theorem item_long {f k : Nat} {m : List Nat} (h : f / 16 % 2 = 1) (hf : f < 256) (hk : k < 256) (hm : m.length ≤ 65535) : itemB f k m = [lo8 (f : Int)] ++ ([lo8 (k : Int)] ++ longS m) := by
 unfold itemB longS
 rw [if_pos h, if_pos hm, lo8_byte hf, lo8_byte hk, big2, show lo8 ((m.length : Int) / 256) = m.length / 256 % 256 by unfold lo8; omega, show lo8 (m.length : Int) = m.length % 256 by unfold lo8; omega]
 rfl
set_option maxRecDepth 100000 in
set_option maxHeartbeats 2000000 in
theorem put_short (P : Value) (A : Option Addr) (c base f k : Nat) (l m : List Nat) (F0 : Nat → Prop) (s : World) (hW : Wr s base P l F0) (hx : ∀ W, Only F0 s W → U8s W (.slice A m.length c) m) (hlen : l.length + m.length ≤ 700000) (hbase : base ≤ s.heap.size) (hf : f < 256) (hk : k < 256) (hm : m.length ≤ 255) (hc : ¬ f / 16 % 2 = 1) :
  Calls Tryz.prog 61 #[.agg #[.int .i64 f, .int .i64 k, .slice A m.length c], P] s (fun e w' => e = .returned (.tuple #[]) ∧ ∃ F', Wst base P F0 s (l ++ itemB f k m) F' w') := by
 rw [item_short hc hf hk hm]
 have n16 : bits .and .i64 (f : Int) 16 = 0 := by rw [byte16 f hf, if_neg hc]
 have G0 := Go.Lib.hid ((ItSt.start hW (.int .i64 f) (.int .i64 k) (.slice A m.length c)).below (Below.refl _ _).drew)
 have hW0 := hW
 obtain ⟨bP, sP, rfl, -⟩ := hW0
 obtain ⟨q0, q1, q2⟩ := G0.out.bx.cells
 have HB := Go.Lib.hid (show s.heap.size + 1 ≤ _ from G0.out.bx.lt)
 have HBS := Go.Lib.hid hbase
 have HX := Go.Lib.hid hx
 have HN := Go.Lib.hid hlen
 have CA := Go.Lib.hid (fun W (F : Nat → Prop) (l : List Nat) (n : Int) (hl : l.length ≤ 800000) (h : Wr W base (.pointer (some ⟨bP, 0, none⟩)) l F) (hb : base ≤ W.heap.size) => w8_put _ _ l F n W h (by omega) hb)
 have HM := Go.Lib.hid hm
 clear hx hW hlen hbase hf hk hm hc
 go_enter Tryz.func61, Tryz.ntmps61
 go_wp2
 go_region_held3 (fun w' => w'.cell? ⟨s.heap.size, 0, none⟩ = some (.int .i64 f) ∧ w'.cell? ⟨s.heap.size, 1, none⟩ = some (.int .i64 k)) (exact ⟨by assumption, by assumption⟩) (first
  | (have hq := G0.out; go_at_call 56; refine (CA.out _ _ _ _ (by have := HN.out; omega) hq.ws.wr (Nat.le_trans HBS.out hq.ws.size)).mono ?_; intro e x hA; obtain ⟨F2, rfl, hS⟩ := hq.add hA; have G1 := Go.Lib.hid hS; clear hA hS q0 q1 q2 hq G0; obtain ⟨q0, q1, q2⟩ := G1.out.bx.cells)
  | (have hq := G1.out; go_at_call 56; refine (CA.out _ _ _ _ (by have := HN.out; simp; omega) hq.ws.wr (Nat.le_trans HBS.out hq.ws.size)).mono ?_; intro e x hA; obtain ⟨F3, rfl, hS⟩ := hq.add hA; have G2 := Go.Lib.hid hS; clear hA hS q0 q1 q2 hq G1; obtain ⟨q0, q1, q2⟩ := G2.out.bx.cells))
 go_wp2_with (go_at_call 96; (refine (sizedO_any _ A c base _ m F3 _ G2.out.ws.wr (fun W' ho => HX.out W' (G2.out.ws.only ho)) (by have := HN.out; simp; omega) (Nat.le_trans HBS.out G2.out.ws.size)).mono ?_; intro e x hA; obtain ⟨F4, rfl, hS⟩ := G2.out.add hA; have G3 := Go.Lib.hid hS; clear hA hS q0 q1 q2))
 go_end0
 refine ⟨rfl, F4, ?_⟩
 have h := G3.out.ws
 rw [List.append_assoc, List.append_assoc] at h
 exact h
set_option maxRecDepth 100000 in
set_option maxHeartbeats 2000000 in
theorem put_long (P : Value) (A : Option Addr) (c base f k : Nat) (l m : List Nat) (F0 : Nat → Prop) (s : World) (hW : Wr s base P l F0) (hx : ∀ W, Only F0 s W → U8s W (.slice A m.length c) m) (hlen : l.length + m.length ≤ 700000) (hbase : base ≤ s.heap.size) (hf : f < 256) (hk : k < 256) (hm : m.length ≤ 65535) (hc : f / 16 % 2 = 1) :
  Calls Tryz.prog 61 #[.agg #[.int .i64 f, .int .i64 k, .slice A m.length c], P] s (fun e w' => e = .returned (.tuple #[]) ∧ ∃ F', Wst base P F0 s (l ++ itemB f k m) F' w') := by
 rw [item_long hc hf hk hm]
 have n16 : bits .and .i64 (f : Int) 16 = 16 := by rw [byte16 f hf, if_pos hc]
 have G0 := Go.Lib.hid ((ItSt.start hW (.int .i64 f) (.int .i64 k) (.slice A m.length c)).below (Below.refl _ _).drew)
 have hW0 := hW
 obtain ⟨bP, sP, rfl, -⟩ := hW0
 obtain ⟨q0, q1, q2⟩ := G0.out.bx.cells
 have HB := Go.Lib.hid (show s.heap.size + 1 ≤ _ from G0.out.bx.lt)
 have HBS := Go.Lib.hid hbase
 have HX := Go.Lib.hid hx
 have HN := Go.Lib.hid hlen
 have CA := Go.Lib.hid (fun W (F : Nat → Prop) (l : List Nat) (n : Int) (hl : l.length ≤ 800000) (h : Wr W base (.pointer (some ⟨bP, 0, none⟩)) l F) (hb : base ≤ W.heap.size) => w8_put _ _ l F n W h (by omega) hb)
 have HM := Go.Lib.hid hm
 clear hx hW hlen hbase hf hk hm hc
 go_enter Tryz.func61, Tryz.ntmps61
 go_wp2
 go_region_held3 (fun w' => w'.cell? ⟨s.heap.size, 0, none⟩ = some (.int .i64 f) ∧ w'.cell? ⟨s.heap.size, 1, none⟩ = some (.int .i64 k)) (exact ⟨by assumption, by assumption⟩) (first
  | (have hq := G0.out; go_at_call 56; refine (CA.out _ _ _ _ (by have := HN.out; omega) hq.ws.wr (Nat.le_trans HBS.out hq.ws.size)).mono ?_; intro e x hA; obtain ⟨F2, rfl, hS⟩ := hq.add hA; have G1 := Go.Lib.hid hS; clear hA hS q0 q1 q2 hq G0; obtain ⟨q0, q1, q2⟩ := G1.out.bx.cells)
  | (have hq := G1.out; go_at_call 56; refine (CA.out _ _ _ _ (by have := HN.out; simp; omega) hq.ws.wr (Nat.le_trans HBS.out hq.ws.size)).mono ?_; intro e x hA; obtain ⟨F3, rfl, hS⟩ := hq.add hA; have G2 := Go.Lib.hid hS; clear hA hS q0 q1 q2 hq G1; obtain ⟨q0, q1, q2⟩ := G2.out.bx.cells))
 go_wp2_with (go_at_call 22; (refine (longO_any _ A c base _ m F3 _ G2.out.ws.wr (fun W' ho => HX.out W' (G2.out.ws.only ho)) (by have := HN.out; simp; omega) (Nat.le_trans HBS.out G2.out.ws.size)).mono ?_; intro e x hA; obtain ⟨F4, rfl, hS⟩ := G2.out.add hA; have G3 := Go.Lib.hid hS; clear hA hS q0 q1 q2))
 go_end0
 refine ⟨rfl, F4, ?_⟩
 have h := G3.out.ws
 rw [List.append_assoc, List.append_assoc] at h
 exact h
theorem put_item (P : Value) (A : Option Addr) (c base f k : Nat) (l m : List Nat) (F0 : Nat → Prop) (s : World) (hW : Wr s base P l F0) (hx : ∀ W, Only F0 s W → U8s W (.slice A m.length c) m) (hlen : l.length + m.length ≤ 700000) (hbase : base ≤ s.heap.size) (hf : f < 256) (hk : k < 256) (hm : m.length ≤ 65535) (hc : 255 < m.length → f / 16 % 2 = 1) :
  Calls Tryz.prog 61 #[.agg #[.int .i64 f, .int .i64 k, .slice A m.length c], P] s (fun e w' => e = .returned (.tuple #[]) ∧ ∃ F', Wst base P F0 s (l ++ itemB f k m) F' w') := by
 by_cases h : f / 16 % 2 = 1
 ·exact put_long P A c base f k l m F0 s hW hx hlen hbase hf hk hm h
 ·exact put_short P A c base f k l m F0 s hW hx hlen hbase hf hk (by
   rcases Nat.lt_or_ge 255 m.length with q | q
   ·exact absurd (hc q) h
   ·exact q) h
end Go.Proofs.YtlhdjdnflpilbaaGreatDoor.Att
namespace Go.Proofs.YtlhdjdnflpilbaaGreatDoor.Att
open Go.RowKit Mem Segm Oct
set_option maxHeartbeats 4000000 in
theorem fits_any (k n : Nat) (w : World) (hS : Shp w) (hk : 1 ≤ k) (hk8 : k ≤ 8) (hn : n ≤ 1000000) : Calls Tryz.prog 107 #[.int .i64 k, .int .i64 n] w (Tells (.bool (longB k n)) w) := by
 have HB := Go.Lib.hid (Below.refl w.heap.size w)
 have hm : k = 2 ∨ k = 8 ∨ k = 1 ∨ k = 3 ∨ k = 4 ∨ k = 5 ∨ k = 6 ∨ k = 7 := by omega
 have c0 := (hS k hk8).2
 clear hS hk hk8
 rcases hm with rfl | rfl | rfl | rfl | rfl | rfl | rfl | rfl
 ·have e : longB 2 n = true := rfl
  rw [e]
  clear c0
  go_enter Tryz.func107, Tryz.ntmps107
  go_wp2
  go_ret
  exact ⟨rfl, HB.out⟩
 ·clear c0
  have wq : wrap64 ((n : Int) / 4) = (n : Int) / 4 := by unfold wrap64; omega
  by_cases h4 : n % 4 = 0
  ·have y4 : (n : Int) % 4 = 0 := by omega
   by_cases h5 : n ≤ 1020
   ·have z5 : (n : Int) / 4 ≤ 255 := by omega
    have e : longB 8 n = true := by simp [longB, h4, h5]
    rw [e]
    clear hn h4
    go_enter Tryz.func107, Tryz.ntmps107
    go_wp2
    go_ret
    first | exact ⟨rfl, HB.out⟩ | (rw [decide_eq_true z5]; exact ⟨rfl, HB.out⟩) | (refine ⟨?_, HB.out⟩; simp [z5]; done)
   ·have z5 : decide ((n : Int) / 4 ≤ 255) = false := decide_eq_false (by omega)
    have e : longB 8 n = false := by simp [longB, h5]
    rw [e]
    clear hn h4
    go_enter Tryz.func107, Tryz.ntmps107
    go_wp2
    go_ret
    first | exact ⟨rfl, HB.out⟩ | (rw [z5]; exact ⟨rfl, HB.out⟩) | (rw [wq, z5]; exact ⟨rfl, HB.out⟩)
  ·have y4 : ((n : Int) % 4 == 0) = false := by simp; omega
   have e : longB 8 n = false := by simp [longB, h4]
   rw [e]
   clear hn h4
   go_enter Tryz.func107, Tryz.ntmps107
   go_wp2
   go_ret
   exact ⟨rfl, HB.out⟩
 all_goals
  have e : ∀ m : Nat, ((n : Int) == (m : Int)) = decide (n = m) := fun m => by
   by_cases h : n = m
   ·subst h; simp
   ·rw [decide_eq_false h]; simp; omega
  have HE := Go.Lib.hid e
  clear e hn
  go_enter Tryz.func107, Tryz.ntmps107
  go_wp2
  go_ret
  refine ⟨?_, HB.out⟩
  show Ending.returned (Value.bool (_ == _)) = _
  rw [HE.out]
  rfl
set_option maxHeartbeats 4000000 in
theorem flagged_any (f k : Nat) (vd : Value) (w : World) (hS : Shp w) (hf : f < 256) (hk : 1 ≤ k) (hk8 : k ≤ 8) :
  Calls Tryz.prog 106 #[.agg #[.int .i64 f, .int .i64 k, vd]] w (Tells (.bool (decide (ownF f k = flagN k))) w) := by
 have hb0 : Below w.heap.size w (w.alloc (.cells #[.int .i64 f, .int .i64 k, vd] 90)) := (Below.refl _ w).alloc (Nat.le_refl _) _
 have HB := Go.Lib.hid hb0
 obtain ⟨c0, c1, c2⟩ := three_cells w (.int .i64 f) (.int .i64 k) vd 90
 have CF := Go.Lib.hid (flags_any k _ (hS.keep hb0))
 rw [flagN_is] at CF
 have HC := Go.Lib.hid (fun (W : World) (h : Below (w.alloc (.cells #[.int .i64 f, .int .i64 k, vd] 90)).heap.size (w.alloc (.cells #[.int .i64 f, .int .i64 k, vd] 90)) W) => keepsT h c0)
 have n16 := not16 f hf
 have n32 := byte32 f hf
 have o1 := or192.1
 have o2 := or192.2
 clear hS hb0
 by_cases h7 : 7 ≤ k
 ·have e : flagN k = 192 := by unfold flagN; rw [if_neg (by omega), if_neg (by omega), if_pos (by omega)]
  rw [e] at CF ⊢
  by_cases h32 : f / 32 % 2 = 1
  ·rw [if_pos h32] at n32
   have HE := Go.Lib.hid (show (((if f / 16 % 2 = 1 then f - 16 else f : Nat) : Int) == 224) = decide (ownF f k = 192) by
    unfold ownF
    rw [if_pos (show 7 ≤ k ∧ f / 32 % 2 = 1 from ⟨h7, h32⟩)]
    by_cases hq : (if f / 16 % 2 = 1 then f - 16 else f) = 224
    ·rw [hq]; rfl
    ·rw [decide_eq_false (by omega)]; simp; omega)
   generalize (if f / 16 % 2 = 1 then f - 16 else f) = g at n16 HE
   generalize decide (ownF f k = 192) = r at HE ⊢
   clear h32 h7 hf hk hk8 e
   go_enter Tryz.func106, Tryz.ntmps106
   go_wp2_with (go_at_call 59; refine (CF.out).mono ?_; rintro e w1 ⟨rfl, hb⟩; have HB1 := Go.Lib.hid (HB.out.trans (hb.mono HB.out.size)); have c0' := HC.out _ hb; clear hb)
   go_ret
   exact ⟨by rw [← HE.out]; rfl, HB1.out⟩
  ·rw [if_neg h32] at n32
   have HE := Go.Lib.hid (show (((if f / 16 % 2 = 1 then f - 16 else f : Nat) : Int) == 192) = decide (ownF f k = 192) by
    unfold ownF
    rw [if_neg (show ¬ (7 ≤ k ∧ f / 32 % 2 = 1) from fun h => h32 h.2)]
    by_cases hq : (if f / 16 % 2 = 1 then f - 16 else f) = 192
    ·rw [hq]; rfl
    ·rw [decide_eq_false (by omega)]; simp; omega)
   generalize (if f / 16 % 2 = 1 then f - 16 else f) = g at n16 HE
   generalize decide (ownF f k = 192) = r at HE ⊢
   clear h32 h7 hf hk hk8 e
   go_enter Tryz.func106, Tryz.ntmps106
   go_wp2_with (go_at_call 59; refine (CF.out).mono ?_; rintro e w1 ⟨rfl, hb⟩; have HB1 := Go.Lib.hid (HB.out.trans (hb.mono HB.out.size)); have c0' := HC.out _ hb; clear hb)
   go_ret
   exact ⟨by rw [← HE.out]; rfl, HB1.out⟩
 ·have hne : flagN k ≠ 192 := by unfold flagN; split <;> (try split) <;> (try split) <;> omega
  have HE := Go.Lib.hid (show (((if f / 16 % 2 = 1 then f - 16 else f : Nat) : Int) == (flagN k : Nat)) = decide (ownF f k = flagN k) by
   unfold ownF
   rw [if_neg (show ¬ (7 ≤ k ∧ f / 32 % 2 = 1) from fun h => h7 h.1)]
   by_cases hq : (if f / 16 % 2 = 1 then f - 16 else f) = flagN k
   ·rw [hq]; simp
   ·rw [decide_eq_false (by omega)]; simp; omega)
  generalize (if f / 16 % 2 = 1 then f - 16 else f) = g at n16 HE
  generalize decide (ownF f k = flagN k) = r at HE ⊢
  generalize flagN k = F at CF HE hne
  have y0 : ((F : Int) == 192) = false := by simp; omega
  clear h7 hf hk hk8 hne
  go_enter Tryz.func106, Tryz.ntmps106
  go_wp2_with (go_at_call 59; refine (CF.out).mono ?_; rintro e w1 ⟨rfl, hb⟩; have HB1 := Go.Lib.hid (HB.out.trans (hb.mono HB.out.size)); have c0' := HC.out _ hb; clear hb)
  go_ret
  exact ⟨by rw [← HE.out]; rfl, HB1.out⟩
set_option maxHeartbeats 1000000 in
theorem numbers_any (v : Value) (p : List Piece) (w : World) (hv : Segs w v p) (hl : lens p ≤ 100000) :
  Calls Tryz.prog 70 #[v] w (Tells (.int .i64 (lens p : Nat)) w) := by
 have HV := Go.Lib.hid hv
 obtain ⟨A, c, rfl, hlc, hc⟩ := hv.form
 have HL := Go.Lib.hid hl
 have HB0 := Go.Lib.hid (Below.refl w.heap.size w)
 clear hv hl
 go_enter Tryz.func70, Tryz.ntmps70
 go_wp2
 go_loopw [3, 8] (fun v3 v8 wr => ∃ i : Nat, i ≤ p.length ∧ v3 = .int .i64 (lens (p.take i) : Nat) ∧ v8 = .int .i64 i ∧ Hid (Below w.heap.size w wr)) (fun _ v8 _ => p.length - (intOf v8).toNat)
 case atStart => exact ⟨0, Nat.zero_le _, rfl, rfl, HB0⟩
 case round =>
  obtain ⟨i, hi, rfl, rfl, HBW⟩ := hrel
  by_cases hlt : i < p.length
  ·obtain ⟨s, hs⟩ : ∃ s, p[i]? = some s := ⟨_, List.getElem?_eq_getElem hlt⟩
   obtain ⟨b, off, x, rfl, hbl, k1, k2, hx⟩ := (HV.out.keep HBW.out).at_ hs
   obtain ⟨Ax, cx, rfl, hlx, hcx, -, -⟩ := hx.open_
   have HE := Go.Lib.hid (lens_take hs)
   have HM := Go.Lib.hid (Nat.le_trans (lens_take_le p (i + 1)) HL.out)
   obtain ⟨m, hm⟩ : ∃ m, m = s.2.length := ⟨_, rfl⟩
   rw [← hm] at k2 HE
   have z0 : (0 : Int) ≤ (i : Int) := by omega
   have z1 : (i : Int) < (p.length : Int) := by omega
   have y1 : wrap64 ((lens (p.take i) : Nat) + (m : Int)) = ((lens (p.take (i + 1)) : Nat) : Int) := by
    have e := HE.out
    have e2 := HM.out
    rw [e] at e2 ⊢
    unfold wrap64
    omega
   have HB2 := Go.Lib.hid (HBW.out.alloc HBW.out.size (.cells #[.int .i64 s.1, .slice Ax m cx] 117))
   clear hx hs hm
   go_wp2
   go_roundw
   case rel => exact ⟨i + 1, by omega, by first | exact congrArg _ y1 | (rw [y1]) | go_num, by go_num, HB2⟩
   case measure => simp [intOf]; omega
  ·obtain rfl : i = p.length := by omega
   have z1 : decide ((p.length : Int) < (p.length : Int)) = false := by simp
   have e : lens (p.take p.length) = lens p := by rw [List.take_length]
   rw [e]
   go_wp2
   go_ret
   exact ⟨rfl, HBW.out⟩
end Go.Proofs.YtlhdjdnflpilbaaGreatDoor.Att
