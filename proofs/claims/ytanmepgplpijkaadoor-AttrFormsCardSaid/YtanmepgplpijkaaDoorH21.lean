/- Plain mathematics: the bytes of what is told of a way, and what bytes tell. It speaks of no function of the program. The program's has, Hop, known, Flags, fits, flagged: attributes' types. The program's present: what there is of attributes. The program's Well: which type is missing. The program's putAll: numbers written one after another. -/
import Derived.Test.YtanmepgplpijkaaDoorH11
import Derived.Test.YtanmepgplpijkaaDoorH04
import Derived.Test.YtanmepgplpijkaaDoorH14
import Derived.Test.YtanmepgplpijkaaDoorH16
import Derived.Test.YtanmepgplpijkaaDoorH07
import Derived.Test.YtanmepgplpijkaaDoorH20
import Derived.Test.YtanmepgplpijkaaDoorH19
import Derived.Test.YtanmepgplpijkaaDoorH03
import Derived.BigQuiet
import Derived.BigRegion
import Derived.RegionTactic
import Derived.Deep.CutBlock
import Derived.Deep.DeepCutAuto
import Derived.Test.YtanmepgplpijkaaDoorH02
namespace Go.Proofs.YtanmepgplpijkaaDoor.Att
open Segm Rise Oct
def fours (l : List Nat) : List Nat := l.flatMap fun n => big n 4
theorem fours_cons (n : Nat) (l : List Nat) : fours (n :: l) = big n 4 ++ fours l := rfl
theorem fours_append (l m : List Nat) : fours (l ++ m) = fours l ++ fours m := by simp [fours]
theorem fours_len : ∀ l : List Nat, (fours l).length = 4 * l.length
  | [] => rfl
  | n :: l => by rw [fours_cons, List.length_append, big_len, fours_len l, List.length_cons]; omega
theorem fours_small : ∀ l : List Nat, Small (fours l)
  | [] => small_nil
  | n :: l => by rw [fours_cons]; exact (big_small n 4).append (fours_small l)
def segB (s : Piece) : List Nat := lo8 s.1 :: lo8 (s.2.length : Int) :: fours s.2
def pathB (p : List Piece) : List Nat := p.flatMap segB
theorem pathB_append (p q : List Piece) : pathB (p ++ q) = pathB p ++ pathB q := by simp [pathB]
theorem pathB_cons (s : Piece) (q : List Piece) : pathB (s :: q) = segB s ++ pathB q := rfl
theorem segB_len (s : Piece) : (segB s).length = 2 + 4 * s.2.length := by unfold segB; simp only [List.length_cons, fours_len]; omega
theorem segB_small (s : Piece) : Small (segB s) := by
  unfold segB
  intro n hn
  simp only [List.mem_cons] at hn
  rcases hn with rfl | rfl | h
  · exact lo8_lt _
  · exact lo8_lt _
  · exact fours_small _ n h
theorem pathB_small : ∀ p : List Piece, Small (pathB p)
  | [] => small_nil
  | s :: p => by rw [pathB_cons]; exact (segB_small s).append (pathB_small p)
theorem pathB_len : ∀ p : List Piece, (pathB p).length = 2 * p.length + 4 * lens p
  | [] => rfl
  | s :: p => by
    rw [pathB_cons, List.length_append, segB_len, pathB_len p, List.length_cons]
    have e : lens (s :: p) = s.2.length + lens p := by simp [lens]
    rw [e]; omega
def valB (a : At) (k : Nat) : List Nat :=
  if k = 1 then [lo8 a.origin] else if k = 2 then pathB a.path else if k = 3 then big a.hop 4 else if k = 4 then big a.med 4 else if k = 5 then big a.pref 4 else if k = 7 then big a.aas 4 ++ big a.aid 4 else if k = 8 then fours a.comms else []
def flagN (k : Nat) : Nat := if k = 1 ∨ k = 2 ∨ k = 3 ∨ k = 5 ∨ k = 6 then 64 else if k = 4 then 128 else if k = 7 ∨ k = 8 then 192 else 0
theorem flagN_is (k : Nat) : flagsN (k : Int) = (flagN k : Int) := by
  unfold flagsN flagN
  by_cases h1 : k = 1 ∨ k = 2 ∨ k = 3 ∨ k = 5 ∨ k = 6
  · rw [if_pos h1, if_pos (by omega)]; rfl
  · rw [if_neg h1, if_neg (by omega)]
    by_cases h2 : k = 4
    · rw [if_pos h2, if_pos (by omega)]; rfl
    · rw [if_neg h2, if_neg (by omega)]
      by_cases h3 : k = 7 ∨ k = 8
      · rw [if_pos h3, if_pos (by omega)]; rfl
      · rw [if_neg h3, if_neg (by omega)]; rfl
def itemB (f k : Nat) (v : List Nat) : List Nat := if f / 16 % 2 = 1 then f :: k :: (big v.length 2 ++ v) else f :: k :: v.length :: v
def longF (f n : Nat) : Nat := if 255 < n then f + 16 else f
def attrB (a : At) (k : Nat) : List Nat := itemB (longF (flagN k) (valB a k).length) k (valB a k)
def encTo (a : At) : Nat → List Nat
  | 0 => []
  | k + 1 => encTo a k ++ if hasB a.has ((k + 1 : Nat) : Int) then attrB a (k + 1) else []
def encA (a : At) : List Nat := encTo a 8
structure Item where
  f : Nat
  k : Nat
  v : List Nat
  r : List Nat
def itemOf (b : List Nat) : Option Item := match b with
  | f :: k :: r =>
    if f / 16 % 2 = 1 then (match r with
      | n1 :: n0 :: r2 => if n1 * 256 + n0 ≤ r2.length then some ⟨f, k, r2.take (n1 * 256 + n0), r2.drop (n1 * 256 + n0)⟩ else none
      | _ => none)
    else (match r with
      | n0 :: r2 => if n0 ≤ r2.length then some ⟨f, k, r2.take n0, r2.drop n0⟩ else none
      | _ => none)
  | _ => none
def pathOf : Nat → List Nat → Option (List Piece)
  | 0, b => if b = [] then some [] else none
  | n + 1, b => match b with
    | [] => some []
    | k :: c :: r => if (k = 1 ∨ k = 2) ∧ c ≠ 0 ∧ 4 * c ≤ r.length then (pathOf n (r.drop (4 * c))).map fun l => ((k : Int), quadsN r c) :: l else none
    | _ => none
def pathIs (b : List Nat) : Option (List Piece) := pathOf b.length b
def ownF (f k : Nat) : Nat := (if f / 16 % 2 = 1 then f - 16 else f) - (if 7 ≤ k ∧ f / 32 % 2 = 1 then 32 else 0)
def subOf (f k : Nat) (v : List Nat) : Nat :=
  if k < 1 ∨ 8 < k then (if f < 128 then 2 else 0)
  else if ownF f k ≠ flagN k then 4
  else if longB k v.length = false then 5
  else if k = 1 then (if 2 < val v then 6 else 0)
  else if k = 2 then (match pathIs v with | some p => if goodP (normS p) && decide (lens p ≤ 2000) then 0 else 11 | none => 11)
  else if k = 3 then (if hopB (val v) then 0 else 8)
  else 0
def layA (a : At) (k : Nat) (v : List Nat) : At :=
  if k < 1 ∨ 8 < k then a else
  ⟨a.has + 2 ^ k, if k = 1 then (val v : Nat) else a.origin, if k = 2 then (pathIs v).getD [] else a.path, if k = 3 then val v else a.hop, if k = 4 then val v else a.med, if k = 5 then val v else a.pref,
    if k = 7 then val (v.take 4) else a.aas, if k = 7 then val (v.drop 4) else a.aid, if k = 8 then quads v else a.comms⟩
def badN (s : Nat) (x : Item) : No := ⟨3, s, if s = 11 then [] else itemB x.f x.k x.v⟩
def decA : Nat → List Nat → At → List Nat → No ⊕ At
  | 0, _, a, _ => .inr (normA a)
  | n + 1, seen, a, b => if b = [] then .inr (normA a) else match itemOf b with
    | none => .inl ⟨3, 1, []⟩
    | some x => if x.k ∈ seen then .inl ⟨3, 1, []⟩ else if subOf x.f x.k x.v = 0 then decA n (x.k :: seen) (layA a x.k x.v) x.r else .inl (badN (subOf x.f x.k x.v) x)
def decodeA (b : List Nat) : No ⊕ At := decA b.length [] zeroA b
def noneN : No := ⟨0, 0, []⟩
def outA : No ⊕ At → At × No
  | .inl n => (zeroA, n)
  | .inr a => (a, noneN)
end Go.Proofs.YtanmepgplpijkaaDoor.Att
namespace Go.Proofs.YtanmepgplpijkaaDoor.Att
open Go.RowKit Mem Segm Oct
def wideN (k : Nat) : Nat := if k = 1 then 1 else if k = 3 ∨ k = 4 ∨ k = 5 then 4 else if k = 7 then 8 else 0
def Shp (W : World) : Prop := ∀ k : Nat, k ≤ 8 → W.cell? ⟨0, 2 * k, none⟩ = some (.int .i64 (flagN k : Nat)) ∧ W.cell? ⟨0, 2 * k + 1, none⟩ = some (.int .i64 (wideN k : Nat))
theorem Shp.keep {W W' : World} (h : Shp W) (hb : Below W.heap.size W W') : Shp W' := fun k hk =>
  ⟨keeps hb (h k hk).1, keeps hb (h k hk).2⟩
set_option maxHeartbeats 1000000 in
theorem has_any (h : Int) (k : Nat) (x1 x2 x3 x4 x5 x6 x7 x8 : Value) (w : World) (hk : k ≤ 8) :
    Calls Tryd.prog 32 #[.agg #[.int .i64 h, x1, x2, x3, x4, x5, x6, x7, x8], .int .i64 k] w (Tells (.bool (hasB h k)) w) := by
  have HB := Go.Lib.hid (show Below w.heap.size w (w.alloc (.cells #[.int .i64 h, x1, x2, x3, x4, x5, x6, x7, x8] 26)) from (Below.refl _ w).alloc (Nat.le_refl _) _)
  obtain ⟨c0, -⟩ := (Box9.new w 26 (.int .i64 h) x1 x2 x3 x4 x5 x6 x7 x8).cells
  have e : wrap64 ((2 : Int) ^ k) = 2 ^ k := by
    have h1 : (2 : Int) ^ k = ((2 ^ k : Nat) : Int) := by simp
    have h2 : 2 ^ k ≤ 256 := Nat.le_trans (Nat.pow_le_pow_right (by omega) hk) (by decide)
    rw [h1]
    generalize 2 ^ k = y at h2
    unfold wrap64; omega
  have HP := Go.Lib.hid (show (bits .and .i64 h (wrap64 (2 ^ k)) != 0) = hasB h k by rw [e]; exact and_pow_has h k hk)
  clear e
  have z0 : (0 : Int) ≤ (k : Int) := by omega
  go_enter Tryd.func32, Tryd.ntmps32
  go_wp2
  go_quiet (fail)
  go_wp2
  go_ret
  exact ⟨by rw [← HP.out]; rfl, HB.out.trans ((Mem.below_drewN _ _).mono HB.out.size)⟩
theorem hop_any (a : Nat) (w : World) (ha : a < 4294967296) : Calls Tryd.prog 15 #[.int .u32 a] w (Tells (.bool (hopB a)) w) := by
  have HB := Go.Lib.hid (Below.refl w.heap.size w)
  by_cases h0 : a = 0
  · subst h0
    go_enter Tryd.func15, Tryd.ntmps15
    go_wp2
    go_ret
    exact ⟨rfl, HB.out⟩
  · by_cases h1 : a = 4294967295
    · subst h1
      go_enter Tryd.func15, Tryd.ntmps15
      go_wp2
      go_ret
      exact ⟨rfl, HB.out⟩
    · have y0 : ((a : Int) != 0) = true := by simp; omega
      have y1 : ((a : Int) != 4294967295) = true := by simp; omega
      by_cases h2 : (a : Int) < 3758096384
      · by_cases h3 : True
        · have e : hopB a = true := by unfold hopB; rw [decide_eq_true h0, decide_eq_true h1, decide_eq_true (show a / 268435456 ≠ 14 by omega)]; rfl
          rw [e]
          clear e ha
          go_enter Tryd.func15, Tryd.ntmps15
          go_wp2
          go_ret
          exact ⟨rfl, HB.out⟩
        · exact absurd trivial h3
      · have d2 : decide ((a : Int) < 3758096384) = false := decide_eq_false h2
        by_cases h3 : (4026531839 : Int) < (a : Int)
        · have e : hopB a = true := by unfold hopB; rw [decide_eq_true h0, decide_eq_true h1, decide_eq_true (show a / 268435456 ≠ 14 by omega)]; rfl
          rw [e]
          clear e ha
          go_enter Tryd.func15, Tryd.ntmps15
          go_wp2
          go_ret
          exact ⟨rfl, HB.out⟩
        · have d3 : decide ((4026531839 : Int) < (a : Int)) = false := decide_eq_false h3
          have e : hopB a = false := by unfold hopB; rw [decide_eq_true h0, decide_eq_true h1, decide_eq_false (show ¬ a / 268435456 ≠ 14 by omega)]; rfl
          rw [e]
          clear e ha
          go_enter Tryd.func15, Tryd.ntmps15
          go_wp2
          go_ret
          exact ⟨rfl, HB.out⟩
theorem known_any (k : Int) (w : World) : Calls Tryd.prog 42 #[.int .i64 k] w (Tells (.bool (decide (1 ≤ k) && decide (k ≤ 8))) w) := by
  have HB := Go.Lib.hid (Below.refl w.heap.size w)
  by_cases h0 : 1 ≤ k
  · have HE := Go.Lib.hid (show (decide (1 ≤ k) && decide (k ≤ 8)) = decide (k ≤ 8) by rw [decide_eq_true h0]; rfl)
    rw [HE.out]
    go_enter Tryd.func42, Tryd.ntmps42
    go_wp2
    go_ret
    exact ⟨rfl, HB.out⟩
  · have d0 : decide (1 ≤ k) = false := decide_eq_false h0
    rw [d0]
    go_enter Tryd.func42, Tryd.ntmps42
    go_wp2
    go_ret
    exact ⟨rfl, HB.out⟩
theorem flags_any (k : Int) (w : World) (hS : Shp w) : Calls Tryd.prog 13 #[.int .i64 k] w (Tells (.int .i64 (flagsN k)) w) := by
  by_cases hk : 1 ≤ k ∧ k ≤ 8
  · obtain ⟨m, rfl⟩ := Int.eq_ofNat_of_zero_le (show 0 ≤ k by omega)
    have CK := Go.Lib.hid (fun W => show Calls Tryd.prog 42 #[.int .i64 m] W (Tells (.bool true) W) from by
      have h := known_any (m : Int) W
      rw [decide_eq_true hk.1, decide_eq_true hk.2] at h
      exact h)
    have HS := Go.Lib.hid hS
    rw [flagN_is]
    have z0 : (0 : Int) ≤ (m : Int) := by omega
    have z9 : (m : Int) < 9 := by omega
    have hm : m ≤ 8 := by omega
    have e2 : m * 2 = 2 * m := by omega
    clear hS hk
    go_enter Tryd.func13, Tryd.ntmps13
    go_wp2_with (go_at_call 42; refine (CK.out _).mono ?_; rintro e w1 ⟨rfl, hb⟩; have HB := Go.Lib.hid hb; have c0 := (HS.out.keep hb m hm).1; clear hb)
    go_ret
    exact ⟨rfl, HB.out⟩
  · have CK := Go.Lib.hid (fun W => show Calls Tryd.prog 42 #[.int .i64 k] W (Tells (.bool false) W) from by
      have h := known_any k W
      rw [show (decide (1 ≤ k) && decide (k ≤ 8)) = false by
        by_cases h1 : 1 ≤ k
        · rw [decide_eq_false (show ¬ k ≤ 8 from fun h2 => hk ⟨h1, h2⟩)]; simp
        · rw [decide_eq_false h1]; rfl] at h
      exact h)
    have e : flagsN k = 0 := by unfold flagsN; rw [if_neg (by omega), if_neg (by omega), if_neg (by omega)]
    rw [e]
    clear hS hk
    go_enter Tryd.func13, Tryd.ntmps13
    go_wp2_with (go_at_call 42; refine (CK.out _).mono ?_; rintro e w1 ⟨rfl, hb⟩; have HB := Go.Lib.hid hb; clear hb)
    go_ret
    exact ⟨rfl, HB.out⟩
end Go.Proofs.YtanmepgplpijkaaDoor.Att
namespace Go.Proofs.YtanmepgplpijkaaDoor.Att
open Go.RowKit Mem Segm Oct
theorem upto_form (h : Int) : ∃ x : Nat, hasUpto h 8 = x % 512 - x % 2 ∧ ∀ k : Nat, 1 ≤ k → k ≤ 8 → hasB h (k : Int) = (x / 2 ^ k % 2 == 1) := by
  have H : ∀ k : Nat, 1 ≤ k → k ≤ 8 → hasB h (k : Int) = ((h % 18446744073709551616).toNat / 2 ^ k % 2 == 1) := fun k h1 h8 => by
    generalize hx : (h % 18446744073709551616).toNat = x
    rw [hasB_in (by omega)]
    have hx0 : (x : Int) = h % 18446744073709551616 := by omega
    have hk2 : k = 1 ∨ k = 2 ∨ k = 3 ∨ k = 4 ∨ k = 5 ∨ k = 6 ∨ k = 7 ∨ k = 8 := by omega
    have e : h / 2 ^ k % 2 = ((x / 2 ^ k % 2 : Nat) : Int) := by
      rcases hk2 with rfl | rfl | rfl | rfl | rfl | rfl | rfl | rfl <;> simp only [Nat.reducePow, Int.reducePow] <;> omega
    rw [e]
    by_cases hd : x / 2 ^ k % 2 = 1
    · rw [hd]; rfl
    · rw [show x / 2 ^ k % 2 = 0 by omega]; rfl
  exact ⟨_, hasUpto_nat H 8 (by omega), H⟩
theorem hasB_upto (h : Int) (k : Nat) (h1 : 1 ≤ k) (h8 : k ≤ 8) : hasB (hasUpto h 8 : Nat) (k : Int) = hasB h (k : Int) := by
  obtain ⟨x, e, H⟩ := upto_form h
  rw [H k h1 h8, e, hasB_in (by omega)]
  have hk2 : k = 1 ∨ k = 2 ∨ k = 3 ∨ k = 4 ∨ k = 5 ∨ k = 6 ∨ k = 7 ∨ k = 8 := by omega
  have e2 : (((x % 512 - x % 2 : Nat) : Int)) / 2 ^ k % 2 = ((x / 2 ^ k % 2 : Nat) : Int) := by
    rcases hk2 with rfl | rfl | rfl | rfl | rfl | rfl | rfl | rfl <;> simp only [Nat.reducePow, Int.reducePow] <;> omega
  rw [e2]
  by_cases hd : x / 2 ^ k % 2 = 1
  · rw [hd]; rfl
  · rw [show x / 2 ^ k % 2 = 0 by omega]; rfl
structure PresSt (w : World) (y0 y1 y2 y3 y4 y5 y6 y7 y8 : Value) (W : World) : Prop where
  b1 : Box9 W w.heap.size 26 y0 y1 y2 y3 y4 y5 y6 y7 y8
  b2 : Box9 W (w.heap.size + 1) 26 (.int .i64 0) (.int .i64 0) (.slice none 0 0) (.int .u32 0) (.int .u32 0) (.int .u32 0) (.int .u32 0) (.int .u32 0) (.slice none 0 0)
  low : Below w.heap.size w W
section
variable {w W W' : World} {y0 y1 y2 y3 y4 y5 y6 y7 y8 : Value}
theorem PresSt.below (h : PresSt w y0 y1 y2 y3 y4 y5 y6 y7 y8 W) (hb : Below W.heap.size W W') : PresSt w y0 y1 y2 y3 y4 y5 y6 y7 y8 W' :=
  ⟨h.b1.keep hb, h.b2.keep hb, h.low.trans (hb.mono h.low.size)⟩
theorem PresSt.set0 (h : PresSt w y0 y1 y2 y3 y4 y5 y6 y7 y8 W) (v : Value) : PresSt w v y1 y2 y3 y4 y5 y6 y7 y8 (W.setCell ⟨w.heap.size, 0, none⟩ v) :=
  ⟨h.b1.set0 v, box_far h.b2 (by omega), h.low.setCell (p := ⟨w.heap.size, 0, none⟩) (Nat.le_refl _) _⟩
theorem PresSt.set1 (h : PresSt w y0 y1 y2 y3 y4 y5 y6 y7 y8 W) (v : Value) : PresSt w y0 v y2 y3 y4 y5 y6 y7 y8 (W.setCell ⟨w.heap.size, 1, none⟩ v) :=
  ⟨h.b1.set1 v, box_far h.b2 (by omega), h.low.setCell (p := ⟨w.heap.size, 1, none⟩) (Nat.le_refl _) _⟩
theorem PresSt.set2 (h : PresSt w y0 y1 y2 y3 y4 y5 y6 y7 y8 W) (v : Value) : PresSt w y0 y1 v y3 y4 y5 y6 y7 y8 (W.setCell ⟨w.heap.size, 2, none⟩ v) :=
  ⟨h.b1.set2 v, box_far h.b2 (by omega), h.low.setCell (p := ⟨w.heap.size, 2, none⟩) (Nat.le_refl _) _⟩
theorem PresSt.set3 (h : PresSt w y0 y1 y2 y3 y4 y5 y6 y7 y8 W) (v : Value) : PresSt w y0 y1 y2 v y4 y5 y6 y7 y8 (W.setCell ⟨w.heap.size, 3, none⟩ v) :=
  ⟨h.b1.set3 v, box_far h.b2 (by omega), h.low.setCell (p := ⟨w.heap.size, 3, none⟩) (Nat.le_refl _) _⟩
theorem PresSt.set4 (h : PresSt w y0 y1 y2 y3 y4 y5 y6 y7 y8 W) (v : Value) : PresSt w y0 y1 y2 y3 v y5 y6 y7 y8 (W.setCell ⟨w.heap.size, 4, none⟩ v) :=
  ⟨h.b1.set4 v, box_far h.b2 (by omega), h.low.setCell (p := ⟨w.heap.size, 4, none⟩) (Nat.le_refl _) _⟩
theorem PresSt.set5 (h : PresSt w y0 y1 y2 y3 y4 y5 y6 y7 y8 W) (v : Value) : PresSt w y0 y1 y2 y3 y4 v y6 y7 y8 (W.setCell ⟨w.heap.size, 5, none⟩ v) :=
  ⟨h.b1.set5 v, box_far h.b2 (by omega), h.low.setCell (p := ⟨w.heap.size, 5, none⟩) (Nat.le_refl _) _⟩
theorem PresSt.set6 (h : PresSt w y0 y1 y2 y3 y4 y5 y6 y7 y8 W) (v : Value) : PresSt w y0 y1 y2 y3 y4 y5 v y7 y8 (W.setCell ⟨w.heap.size, 6, none⟩ v) :=
  ⟨h.b1.set6 v, box_far h.b2 (by omega), h.low.setCell (p := ⟨w.heap.size, 6, none⟩) (Nat.le_refl _) _⟩
theorem PresSt.set7 (h : PresSt w y0 y1 y2 y3 y4 y5 y6 y7 y8 W) (v : Value) : PresSt w y0 y1 y2 y3 y4 y5 y6 v y8 (W.setCell ⟨w.heap.size, 7, none⟩ v) :=
  ⟨h.b1.set7 v, box_far h.b2 (by omega), h.low.setCell (p := ⟨w.heap.size, 7, none⟩) (Nat.le_refl _) _⟩
theorem PresSt.set8 (h : PresSt w y0 y1 y2 y3 y4 y5 y6 y7 y8 W) (v : Value) : PresSt w y0 y1 y2 y3 y4 y5 y6 y7 v (W.setCell ⟨w.heap.size, 8, none⟩ v) :=
  ⟨h.b1.set8 v, box_far h.b2 (by omega), h.low.setCell (p := ⟨w.heap.size, 8, none⟩) (Nat.le_refl _) _⟩
end
theorem pres_new (w : World) (x0 x1 x2 x3 x4 x5 x6 x7 x8 : Value) : PresSt w x0 x1 x2 x3 x4 x5 x6 x7 x8 ((w.alloc (.cells #[x0, x1, x2, x3, x4, x5, x6, x7, x8] 26)).alloc (.cells #[.int .i64 0, .int .i64 0, .slice none 0 0, .int .u32 0, .int .u32 0, .int .u32 0, .int .u32 0, .int .u32 0, .slice none 0 0] 26)) := by
  obtain ⟨h1, h2, h3⟩ := two_boxes w 26 x0 x1 x2 x3 x4 x5 x6 x7 x8 (.int .i64 0) (.int .i64 0) (.slice none 0 0) (.int .u32 0) (.int .u32 0) (.int .u32 0) (.int .u32 0) (.int .u32 0) (.slice none 0 0)
  exact ⟨h1, h2, h3⟩
set_option maxRecDepth 100000 in
set_option maxHeartbeats 16000000 in
theorem pres8 (h o : Int) (Ap Ac : Option Addr) (np cp nc cc hp md pr ag ai : Nat) (w : World)
    (o1 : Int) (Ap1 Ac1 : Option Addr) (np1 cp1 nc1 cc1 hp1 md1 pr1 ag1 ai1 : Nat)
    (E1 : Hid (o1 = if hasB h 1 then o else 0)) (E2 : Hid (Value.slice Ap1 np1 cp1 = if hasB h 2 then .slice Ap np cp else .slice none 0 0))
    (E3 : Hid (hp1 = if hasB h 3 then hp else 0)) (E4 : Hid (md1 = if hasB h 4 then md else 0)) (E5 : Hid (pr1 = if hasB h 5 then pr else 0)) (E6 : Hid (ag1 = if hasB h 7 then ag else 0)) (E7 : Hid (ai1 = if hasB h 7 then ai else 0))
    (E8 : Hid (Value.slice Ac1 nc1 cc1 = if hasB h 8 then .slice Ac nc cc else .slice none 0 0)) :
    Calls Tryd.prog 29 #[.agg #[.int .i64 h, .int .i64 o, .slice Ap np cp, .int .u32 hp, .int .u32 md, .int .u32 pr, .int .u32 ag, .int .u32 ai, .slice Ac nc cc]] w (Tells (.agg #[.int .i64 (hasUpto h 8 : Nat), .int .i64 o1, .slice Ap1 np1 cp1, .int .u32 hp1, .int .u32 md1, .int .u32 pr1, .int .u32 ag1, .int .u32 ai1, .slice Ac1 nc1 cc1]) w) := by
  have CH := Go.Lib.hid (fun (k : Int) (hk : 1 ≤ k) (hk8 : k ≤ 8) (x1 x2 x3 x4 x5 x6 x7 x8 : Value) (W : World) => show Calls Tryd.prog 32 #[.agg #[.int .i64 (hasUpto h 8 : Nat), x1, x2, x3, x4, x5, x6, x7, x8], .int .i64 k] W (Tells (.bool (hasB h k)) W) from by
    obtain ⟨m, rfl⟩ := Int.eq_ofNat_of_zero_le (show 0 ≤ k by omega)
    have q := has_any (hasUpto h 8 : Nat) m x1 x2 x3 x4 x5 x6 x7 x8 W (by omega)
    rw [hasB_upto h m (by omega) (by omega)] at q
    exact q)
  have S0 := Go.Lib.hid (pres_new w (.int .i64 h) (.int .i64 o) (.slice Ap np cp) (.int .u32 hp) (.int .u32 md) (.int .u32 pr) (.int .u32 ag) (.int .u32 ai) (.slice Ac nc cc))
  obtain ⟨c0, c1, c2, c3, c4, c5, c6, c7, c8⟩ := S0.out.b1.cells
  have ff := S0.out.b1.free
  have HA := and_510 h
  have ST := Go.Lib.hid (pres_new w (.int .i64 (hasUpto h 8 : Nat)) (.int .i64 o) (.slice Ap np cp) (.int .u32 hp) (.int .u32 md) (.int .u32 pr) (.int .u32 ag) (.int .u32 ai) (.slice Ac nc cc))
  clear S0
  go_enter Tryd.func29, Tryd.ntmps29
  go_upto_if 9 with (go_at_call 32; refine (CH.out 1 (by decide) (by decide) _ _ _ _ _ _ _ _ _).mono ?_; rintro e x ⟨rfl, hx⟩; replace ST := Go.Lib.hid (ST.out.below hx); clear c0 c1 c2 c3 c4 c5 c6 c7 c8; obtain ⟨c0, c1, c2, c3, c4, c5, c6, c7, c8⟩ := ST.out.b1.cells; have ff := ST.out.b1.free; clear hx)
  go_cut [] from 7 (fun wx => Hid (PresSt w (.int .i64 (hasUpto h 8 : Nat)) (.int .i64 o1) (.slice Ap np cp) (.int .u32 hp) (.int .u32 md) (.int .u32 pr) (.int .u32 ag) (.int .u32 ai) (.slice Ac nc cc) wx))
  case first =>
    cases hb : hasB h 1 with
    | false =>
      go_wp2
      go_meet
      rw [E1.out, if_neg (show ¬ hasB h 1 = true by rw [hb]; decide)]
      exact Go.Lib.hid (ST.out.set1 _)
    | true =>
      go_wp2
      go_meet
      rw [E1.out, if_pos hb]
      exact ST
  case rest =>
  clear c0 c1 c2 c3 c4 c5 c6 c7 c8 ST
  have ST := hcut
  clear hcut
  obtain ⟨c0, c1, c2, c3, c4, c5, c6, c7, c8⟩ := ST.out.b1.cells
  go_upto_if 13 with (go_at_call 32; refine (CH.out 2 (by decide) (by decide) _ _ _ _ _ _ _ _ _).mono ?_; rintro e x ⟨rfl, hx⟩; replace ST := Go.Lib.hid (ST.out.below hx); clear c0 c1 c2 c3 c4 c5 c6 c7 c8; obtain ⟨c0, c1, c2, c3, c4, c5, c6, c7, c8⟩ := ST.out.b1.cells; have ff := ST.out.b1.free; clear hx)
  go_cut [] from 11 (fun wx => Hid (PresSt w (.int .i64 (hasUpto h 8 : Nat)) (.int .i64 o1) (.slice Ap1 np1 cp1) (.int .u32 hp) (.int .u32 md) (.int .u32 pr) (.int .u32 ag) (.int .u32 ai) (.slice Ac nc cc) wx))
  case first =>
    cases hb : hasB h 2 with
    | false =>
      go_wp2
      go_meet
      rw [E2.out, if_neg (show ¬ hasB h 2 = true by rw [hb]; decide)]
      exact Go.Lib.hid (ST.out.set2 _)
    | true =>
      go_wp2
      go_meet
      rw [E2.out, if_pos hb]
      exact ST
  case rest =>
  clear c0 c1 c2 c3 c4 c5 c6 c7 c8 ST
  have ST := hcut
  clear hcut
  obtain ⟨c0, c1, c2, c3, c4, c5, c6, c7, c8⟩ := ST.out.b1.cells
  go_upto_if 17 with (go_at_call 32; refine (CH.out 3 (by decide) (by decide) _ _ _ _ _ _ _ _ _).mono ?_; rintro e x ⟨rfl, hx⟩; replace ST := Go.Lib.hid (ST.out.below hx); clear c0 c1 c2 c3 c4 c5 c6 c7 c8; obtain ⟨c0, c1, c2, c3, c4, c5, c6, c7, c8⟩ := ST.out.b1.cells; have ff := ST.out.b1.free; clear hx)
  go_cut [] from 15 (fun wx => Hid (PresSt w (.int .i64 (hasUpto h 8 : Nat)) (.int .i64 o1) (.slice Ap1 np1 cp1) (.int .u32 hp1) (.int .u32 md) (.int .u32 pr) (.int .u32 ag) (.int .u32 ai) (.slice Ac nc cc) wx))
  case first =>
    cases hb : hasB h 3 with
    | false =>
      go_wp2
      go_meet
      rw [E3.out, if_neg (show ¬ hasB h 3 = true by rw [hb]; decide)]
      exact Go.Lib.hid (ST.out.set3 _)
    | true =>
      go_wp2
      go_meet
      rw [E3.out, if_pos hb]
      exact ST
  case rest =>
  clear c0 c1 c2 c3 c4 c5 c6 c7 c8 ST
  have ST := hcut
  clear hcut
  obtain ⟨c0, c1, c2, c3, c4, c5, c6, c7, c8⟩ := ST.out.b1.cells
  go_upto_if 21 with (go_at_call 32; refine (CH.out 4 (by decide) (by decide) _ _ _ _ _ _ _ _ _).mono ?_; rintro e x ⟨rfl, hx⟩; replace ST := Go.Lib.hid (ST.out.below hx); clear c0 c1 c2 c3 c4 c5 c6 c7 c8; obtain ⟨c0, c1, c2, c3, c4, c5, c6, c7, c8⟩ := ST.out.b1.cells; have ff := ST.out.b1.free; clear hx)
  go_cut [] from 19 (fun wx => Hid (PresSt w (.int .i64 (hasUpto h 8 : Nat)) (.int .i64 o1) (.slice Ap1 np1 cp1) (.int .u32 hp1) (.int .u32 md1) (.int .u32 pr) (.int .u32 ag) (.int .u32 ai) (.slice Ac nc cc) wx))
  case first =>
    cases hb : hasB h 4 with
    | false =>
      go_wp2
      go_meet
      rw [E4.out, if_neg (show ¬ hasB h 4 = true by rw [hb]; decide)]
      exact Go.Lib.hid (ST.out.set4 _)
    | true =>
      go_wp2
      go_meet
      rw [E4.out, if_pos hb]
      exact ST
  case rest =>
  clear c0 c1 c2 c3 c4 c5 c6 c7 c8 ST
  have ST := hcut
  clear hcut
  obtain ⟨c0, c1, c2, c3, c4, c5, c6, c7, c8⟩ := ST.out.b1.cells
  go_upto_if 25 with (go_at_call 32; refine (CH.out 5 (by decide) (by decide) _ _ _ _ _ _ _ _ _).mono ?_; rintro e x ⟨rfl, hx⟩; replace ST := Go.Lib.hid (ST.out.below hx); clear c0 c1 c2 c3 c4 c5 c6 c7 c8; obtain ⟨c0, c1, c2, c3, c4, c5, c6, c7, c8⟩ := ST.out.b1.cells; have ff := ST.out.b1.free; clear hx)
  go_cut [] from 23 (fun wx => Hid (PresSt w (.int .i64 (hasUpto h 8 : Nat)) (.int .i64 o1) (.slice Ap1 np1 cp1) (.int .u32 hp1) (.int .u32 md1) (.int .u32 pr1) (.int .u32 ag) (.int .u32 ai) (.slice Ac nc cc) wx))
  case first =>
    cases hb : hasB h 5 with
    | false =>
      go_wp2
      go_meet
      rw [E5.out, if_neg (show ¬ hasB h 5 = true by rw [hb]; decide)]
      exact Go.Lib.hid (ST.out.set5 _)
    | true =>
      go_wp2
      go_meet
      rw [E5.out, if_pos hb]
      exact ST
  case rest =>
  clear c0 c1 c2 c3 c4 c5 c6 c7 c8 ST
  have ST := hcut
  clear hcut
  obtain ⟨c0, c1, c2, c3, c4, c5, c6, c7, c8⟩ := ST.out.b1.cells
  go_upto_if 29 with (go_at_call 32; refine (CH.out 7 (by decide) (by decide) _ _ _ _ _ _ _ _ _).mono ?_; rintro e x ⟨rfl, hx⟩; replace ST := Go.Lib.hid (ST.out.below hx); clear c0 c1 c2 c3 c4 c5 c6 c7 c8; obtain ⟨c0, c1, c2, c3, c4, c5, c6, c7, c8⟩ := ST.out.b1.cells; have ff := ST.out.b1.free; clear hx)
  go_cut [] from 27 (fun wx => Hid (PresSt w (.int .i64 (hasUpto h 8 : Nat)) (.int .i64 o1) (.slice Ap1 np1 cp1) (.int .u32 hp1) (.int .u32 md1) (.int .u32 pr1) (.int .u32 ag1) (.int .u32 ai1) (.slice Ac nc cc) wx))
  case first =>
    cases hb : hasB h 7 with
    | false =>
      go_wp2
      go_meet
      rw [E6.out, if_neg (show ¬ hasB h 7 = true by rw [hb]; decide), E7.out, if_neg (show ¬ hasB h 7 = true by rw [hb]; decide)]
      exact Go.Lib.hid ((ST.out.set6 _).set7 _)
    | true =>
      go_wp2
      go_meet
      rw [E6.out, if_pos hb, E7.out, if_pos hb]
      exact ST
  case rest =>
  clear c0 c1 c2 c3 c4 c5 c6 c7 c8 ST
  have ST := hcut
  clear hcut
  obtain ⟨c0, c1, c2, c3, c4, c5, c6, c7, c8⟩ := ST.out.b1.cells
  go_upto_if 34 with (go_at_call 32; refine (CH.out 8 (by decide) (by decide) _ _ _ _ _ _ _ _ _).mono ?_; rintro e x ⟨rfl, hx⟩; replace ST := Go.Lib.hid (ST.out.below hx); clear c0 c1 c2 c3 c4 c5 c6 c7 c8; obtain ⟨c0, c1, c2, c3, c4, c5, c6, c7, c8⟩ := ST.out.b1.cells; have ff := ST.out.b1.free; clear hx)
  go_cut [] from 32 (fun wx => Hid (PresSt w (.int .i64 (hasUpto h 8 : Nat)) (.int .i64 o1) (.slice Ap1 np1 cp1) (.int .u32 hp1) (.int .u32 md1) (.int .u32 pr1) (.int .u32 ag1) (.int .u32 ai1) (.slice Ac1 nc1 cc1) wx))
  case first =>
    cases hb : hasB h 8 with
    | false =>
      go_wp2
      go_meet
      rw [E8.out, if_neg (show ¬ hasB h 8 = true by rw [hb]; decide)]
      exact Go.Lib.hid (ST.out.set8 _)
    | true =>
      go_wp2
      go_meet
      rw [E8.out, if_pos hb]
      exact ST
  case rest =>
  clear c0 c1 c2 c3 c4 c5 c6 c7 c8 ST
  have ST := hcut
  clear hcut
  obtain ⟨c0, c1, c2, c3, c4, c5, c6, c7, c8⟩ := ST.out.b1.cells
  obtain ⟨g0, g1, g2, g3, g4, g5, g6, g7, g8⟩ := ST.out.b2.cells
  have fg := ST.out.b2.free
  have B9 := (((((((((ST.out.b2.set0 (.int .i64 (hasUpto h 8 : Nat))).set1 (.int .i64 o1)).set2 (.slice Ap1 np1 cp1)).set3 (.int .u32 hp1)).set4 (.int .u32 md1)).set5 (.int .u32 pr1)).set6 (.int .u32 ag1)).set7 (.int .u32 ai1)).set8 (.slice Ac1 nc1 cc1))
  obtain ⟨r0, r1, r2, r3, r4, r5, r6, r7, r8⟩ := B9.cells
  go_wp2
  (try simp only [Exit.inBlock, Exit.then])
  refine bodyPost_ret (v := .agg #[.int .i64 (hasUpto h 8 : Nat), .int .i64 o1, .slice Ap1 np1 cp1, .int .u32 hp1, .int .u32 md1, .int .u32 pr1, .int .u32 ag1, .int .u32 ai1, .slice Ac1 nc1 cc1]) (by simp [results, Tryd.results29, go_sem, r0, r1, r2, r3, r4, r5, r6, r7, r8]) rfl ?_
  exact ⟨rfl, nine_low ST.out.low (w.heap.size + 1) (by omega) (.int .i64 (hasUpto h 8 : Nat)) (.int .i64 o1) (.slice Ap1 np1 cp1) (.int .u32 hp1) (.int .u32 md1) (.int .u32 pr1) (.int .u32 ag1) (.int .u32 ai1) (.slice Ac1 nc1 cc1)⟩
def presA (a : At) : At := ⟨(hasUpto a.has 8 : Nat), if hasB a.has 1 then a.origin else 0, if hasB a.has 2 then a.path else [], if hasB a.has 3 then a.hop else 0, if hasB a.has 4 then a.med else 0, if hasB a.has 5 then a.pref else 0, if hasB a.has 7 then a.aas else 0, if hasB a.has 7 then a.aid else 0, if hasB a.has 8 then a.comms else []⟩
theorem presA_ok {a : At} (h : a.ok) : (presA a).ok := by
  obtain ⟨h0, h1, h2, h3, h4, h5, h6⟩ := h
  unfold presA At.ok
  dsimp only
  have hu := hasUpto_le a.has 8
  refine ⟨?_, ?_, ?_, ?_, ?_, ?_, ?_⟩
  · simp [Lit.wf, IntKind.min, IntKind.max, IntKind.signed, IntKind.bits]; omega
  · split
    · exact h1
    · decide
  all_goals (split <;> first | assumption | omega)
theorem present_exact (v : Value) (a : At) (w : World) (hv : Attrs w v a) : ∃ v', Attrs w v' (presA a) ∧ ∀ W, Below w.heap.size w W → Calls Tryd.prog 29 #[v] W (Tells v' W) := by
  obtain ⟨hok, vp, vc, rfl, hP, hC⟩ := hv
  obtain ⟨Ap, cp, rfl, -, -⟩ := hP.form
  obtain ⟨Ac, cc, rfl, -, -, -, -⟩ := hC.open_
  obtain ⟨Ap1, np1, cp1, e1⟩ : ∃ A n c, Value.slice A n c = if hasB a.has 2 then .slice Ap a.path.length cp else .slice none 0 0 := by split <;> exact ⟨_, _, _, rfl⟩
  obtain ⟨Ac1, nc1, cc1, e2⟩ : ∃ A n c, Value.slice A n c = if hasB a.has 8 then .slice Ac a.comms.length cc else .slice none 0 0 := by split <;> exact ⟨_, _, _, rfl⟩
  refine ⟨_, ⟨presA_ok hok, .slice Ap1 np1 cp1, .slice Ac1 nc1 cc1, rfl, ?_, ?_⟩, fun W _ => pres8 a.has a.origin Ap Ac a.path.length cp a.comms.length cc a.hop a.med a.pref a.aas a.aid W _ Ap1 Ac1 np1 cp1 nc1 cc1 _ _ _ _ _ (Go.Lib.hid rfl) (Go.Lib.hid e1) (Go.Lib.hid rfl) (Go.Lib.hid rfl) (Go.Lib.hid rfl) (Go.Lib.hid rfl) (Go.Lib.hid rfl) (Go.Lib.hid e2)⟩
  · rw [e1]
    unfold presA
    dsimp only
    split
    · exact hP
    · exact ⟨[], Row.nil _ 2, Nums32.nil _⟩
  · rw [e2]
    unfold presA
    dsimp only
    split
    · exact hC
    · exact U32s.nil _
end Go.Proofs.YtanmepgplpijkaaDoor.Att
namespace Go.Proofs.YtanmepgplpijkaaDoor.Att
open Go.RowKit Mem Segm Oct
def wellN (h : Int) : No := if hasB h 1 = false then ⟨3, 3, [1]⟩ else if hasB h 2 = false then ⟨3, 3, [2]⟩ else if hasB h 3 = false then ⟨3, 3, [3]⟩ else ⟨0, 0, []⟩
theorem well_step {h : Int} {j : Nat} (hj : j < 3) (ha : ∀ k : Nat, 1 ≤ k → k ≤ j → hasB h (k : Int) = true) (hb : hasB h ((j + 1 : Nat) : Int) = false) : wellN h = ⟨3, 3, [j + 1]⟩ := by
  unfold wellN
  match j, hj with
  | 0, _ => rw [if_pos (show hasB h 1 = false from hb)]
  | 1, _ => rw [if_neg (by rw [show hasB h 1 = true from ha 1 (by omega) (by omega)]; decide), if_pos (show hasB h 2 = false from hb)]
  | 2, _ => rw [if_neg (by rw [show hasB h 1 = true from ha 1 (by omega) (by omega)]; decide), if_neg (by rw [show hasB h 2 = true from ha 2 (by omega) (by omega)]; decide), if_pos (show hasB h 3 = false from hb)]
theorem well_all {h : Int} (ha : ∀ k : Nat, 1 ≤ k → k ≤ 3 → hasB h (k : Int) = true) : wellN h = ⟨0, 0, []⟩ := by
  unfold wellN
  rw [if_neg (by rw [show hasB h 1 = true from ha 1 (by omega) (by omega)]; decide), if_neg (by rw [show hasB h 2 = true from ha 2 (by omega) (by omega)]; decide), if_neg (by rw [show hasB h 3 = true from ha 3 (by omega) (by omega)]; decide)]
structure Box3 (W : World) (B : Nat) (t : TypeId) (x y z : Value) : Prop where
  blk : W.heap[B]? = some (.cells #[x, y, z] t (0, 0))
section
variable {W W' : World} {B : Nat} {t : TypeId} {x y z : Value}
theorem Box3.lt (h : Box3 W B t x y z) : B < W.heap.size := (Array.getElem?_eq_some_iff.1 h.blk).1
theorem Box3.keep (h : Box3 W B t x y z) (hb : Below W.heap.size W W') : Box3 W' B t x y z := ⟨(hb.block B h.lt).trans h.blk⟩
theorem Box3.cells (h : Box3 W B t x y z) : W.cell? ⟨B, 0, none⟩ = some x ∧ W.cell? ⟨B, 1, none⟩ = some y ∧ W.cell? ⟨B, 2, none⟩ = some z := by
  have hb := h.blk
  simp [World.cell?, hb]
theorem Box3.free (h : Box3 W B t x y z) (i : Nat) : W.frozen? ⟨B, i, none⟩ = false := Go.Joins.unfrozen_of_block h.blk i
theorem Box3.new (W : World) (t : TypeId) (x y z : Value) : Box3 (W.alloc (.cells #[x, y, z] t)) W.heap.size t x y z := ⟨heap_alloc_new _ _⟩
theorem Box3.set0 (h : Box3 W B t x y z) (v : Value) : Box3 (W.setCell ⟨B, 0, none⟩ v) B t v y z := ⟨by rw [Go.Joins.block_setCell h.blk]; rfl⟩
theorem Box3.set1 (h : Box3 W B t x y z) (v : Value) : Box3 (W.setCell ⟨B, 1, none⟩ v) B t x v z := ⟨by rw [Go.Joins.block_setCell h.blk]; rfl⟩
theorem Box3.set2 (h : Box3 W B t x y z) (v : Value) : Box3 (W.setCell ⟨B, 2, none⟩ v) B t x y v := ⟨by rw [Go.Joins.block_setCell h.blk]; rfl⟩
theorem Box3.far {C i : Nat} (h : Box3 W B t x y z) (hne : B ≠ C) (v : Value) : Box3 (W.setCell ⟨C, i, none⟩ v) B t x y z := ⟨(Go.RowKit.Below.heap_setCell _ _ _ _ hne).trans h.blk⟩
theorem Box3.below (h : Box3 W B t x y z) (hb : ∀ k, k = B → W'.heap[k]? = W.heap[k]?) : Box3 W' B t x y z := ⟨(hb B rfl).trans h.blk⟩
end
def three (W : World) (B : Nat) (x y z : Value) : World := ((W.setCell ⟨B, 0, none⟩ x).setCell ⟨B, 1, none⟩ y).setCell ⟨B, 2, none⟩ z
theorem three_off (W : World) (B : Nat) (x y z : Value) : (∀ k, k ≠ B → (three W B x y z).heap[k]? = W.heap[k]?) ∧ W.heap.size ≤ (three W B x y z).heap.size := by
  refine ⟨fun k hk => ?_, by simp [three]⟩
  have hne : ∀ i : Nat, k ≠ (⟨B, i, none⟩ : Addr).block := fun i => hk
  unfold three
  simp only [Go.RowKit.Below.heap_setCell _ _ _ _ (hne _)]
theorem three_low {w W : World} {n : Nat} (h : Below n w W) (B : Nat) (hB : n ≤ B) (x y z : Value) : Below n w (three W B x y z) := by
  unfold three
  exact ((h.setCell (p := ⟨B, 0, none⟩) hB x).setCell (p := ⟨B, 1, none⟩) hB y).setCell (p := ⟨B, 2, none⟩) hB z
theorem Box3.laid {W : World} {B : Nat} {t : TypeId} {x y z : Value} (h : Box3 W B t x y z) (x' y' z' : Value) : Box3 (three W B x' y' z') B t x' y' z' := ((h.set0 x').set1 y').set2 z'
set_option maxRecDepth 100000 in
set_option maxHeartbeats 4000000 in
theorem well_any (v : Value) (a : At) (w : World) (hv : Attrs w v a) : Calls Tryd.prog 19 #[v] w (fun e w' => ∃ v', e = .returned v' ∧ Note w' v' (wellN a.has) ∧ Below w.heap.size w w') := by
  obtain ⟨_, vp, vc, rfl, -, -⟩ := hv
  obtain ⟨h, o, p, hp, md, pr, ag, ai, cm⟩ := a
  dsimp only
  unfold acells
  dsimp only
  have H1 := Box9.new w 26 (.int .i64 h) (.int .i64 o) vp (.int .u32 hp) (.int .u32 md) (.int .u32 pr) (.int .u32 ag) (.int .u32 ai) vc
  have B1 : Below w.heap.size w (w.alloc (.cells #[.int .i64 h, .int .i64 o, vp, .int .u32 hp, .int .u32 md, .int .u32 pr, .int .u32 ag, .int .u32 ai, vc] 26)) := (Below.refl _ w).alloc (Nat.le_refl _) _
  have e1 : (w.alloc (.cells #[.int .i64 h, .int .i64 o, vp, .int .u32 hp, .int .u32 md, .int .u32 pr, .int .u32 ag, .int .u32 ai, vc] 26)).heap.size = w.heap.size + 1 := by simp
  have H2 := Box3.new (w.alloc (.cells #[.int .i64 h, .int .i64 o, vp, .int .u32 hp, .int .u32 md, .int .u32 pr, .int .u32 ag, .int .u32 ai, vc] 26)) 34 (.int .i64 0) (.int .i64 0) (.slice none 0 0)
  rw [e1] at H2
  have HX := Go.Lib.hid (And.intro (H1.keep ((Below.refl _ _).alloc (Nat.le_refl _) (.cells #[.int .i64 0, .int .i64 0, .slice none 0 0] 34))) (And.intro H2 (B1.alloc B1.size (.cells #[.int .i64 0, .int .i64 0, .slice none 0 0] 34))))
  have CH := Go.Lib.hid (fun (k : Nat) (hk : k ≤ 8) (W : World) => has_any h k (.int .i64 o) vp (.int .u32 hp) (.int .u32 md) (.int .u32 pr) (.int .u32 ag) (.int .u32 ai) vc W hk)
  clear H1 B1 e1 H2
  go_enter Tryd.func19, Tryd.ntmps19
  go_wp2
  go_loopw [3] (fun v3 wx => ∃ j : Nat, j ≤ 3 ∧ v3 = .int .i64 ((j + 1 : Nat) : Int) ∧ Hid (∀ k : Nat, 1 ≤ k → k ≤ j → hasB h (k : Int) = true) ∧ Hid (Box9 wx w.heap.size 26 (.int .i64 h) (.int .i64 o) vp (.int .u32 hp) (.int .u32 md) (.int .u32 pr) (.int .u32 ag) (.int .u32 ai) vc ∧ Box3 wx (w.heap.size + 1) 34 (.int .i64 0) (.int .i64 0) (.slice none 0 0) ∧ Below w.heap.size w wx)) (fun v3 _ => 5 - (intOf v3).toNat)
  case atStart => exact ⟨0, by omega, rfl, Go.Lib.hid (fun k h1 h2 => by omega), HX⟩
  case round =>
    obtain ⟨j, hj, rfl, hall, ST⟩ := hrel
    obtain ⟨c0, c1, c2, c3, c4, c5, c6, c7, c8⟩ := ST.out.1.cells
    by_cases hlt : j < 3
    · have z1 : ((j + 1 : Nat) : Int) ≤ 3 := by omega
      cases hb : hasB h ((j + 1 : Nat) : Int) with
      | true =>
        have CHJ := Go.Lib.hid (fun W => CH.out (j + 1) (by omega) W)
        rw [hb] at CHJ
        have HA := Go.Lib.hid (show ∀ k : Nat, 1 ≤ k → k ≤ j + 1 → hasB h (k : Int) = true from fun k h1 h2 => by
          by_cases e : k = j + 1
          · subst e; exact hb
          · exact hall.out k h1 (by omega))
        clear hb
        go_wp2_with (go_at_call 32; refine (CHJ.out _).mono ?_; rintro e x ⟨rfl, hx⟩; have S2 := Go.Lib.hid (And.intro (ST.out.1.keep hx) (And.intro (ST.out.2.1.keep hx) (ST.out.2.2.trans (hx.mono ST.out.2.2.size)))); clear hx c0 c1 c2 c3 c4 c5 c6 c7 c8)
        go_roundw
        case rel => exact ⟨j + 1, by omega, by go_num, HA, S2⟩
        case measure => simp [intOf]; omega
      | false =>
        have CHJ := Go.Lib.hid (fun W => CH.out (j + 1) (by omega) W)
        rw [hb] at CHJ
        have HN := Go.Lib.hid (well_step hlt hall.out hb)
        have w8 : IntKind.u8.wrap ((j + 1 : Nat) : Int) = ((j + 1 : Nat) : Int) := by rw [IntKind.wrap_u8]; omega
        clear hb
        obtain ⟨jj, hjj⟩ : ∃ jj, jj = j + 1 := ⟨_, rfl⟩
        rw [← hjj] at CHJ HN w8 z1
        rw [← hjj]
        have hj4 : jj < 4 := by omega
        clear hlt hj hall hjj
        go_wp2_with (go_at_call 32; refine (CHJ.out _).mono ?_; rintro e x ⟨rfl, hx⟩; have S2 := Go.Lib.hid (And.intro (ST.out.1.keep hx) (And.intro (ST.out.2.1.keep hx) (ST.out.2.2.trans (hx.mono ST.out.2.2.size)))); have S3 := Go.Lib.hid (S2.out.2.1.keep ((Below.refl _ x).alloc (Nat.le_refl _) (.cells #[.int .u8 jj] 5))); clear hx c0 c1 c2 c3 c4 c5 c6 c7 c8; obtain ⟨d0, d1, d2⟩ := S3.out.cells; have ff := S3.out.free)
        (try simp only [Exit.inBlock, Exit.then])
        obtain ⟨r0, r1, r2⟩ := (S3.out.laid (.int .i64 3) (.int .i64 3) (.slice (some ⟨x.heap.size, 0, none⟩) 1 1)).cells
        unfold three at r0 r1 r2
        refine bodyPost_ret (v := .agg #[.int .i64 3, .int .i64 3, .slice (some ⟨x.heap.size, 0, none⟩) 1 1]) (by simp [results, Tryd.results19, go_sem, r0, r1, r2]) rfl ?_
        have hlt := S2.out.2.1.lt
        have hU : U8s (x.alloc (.cells #[.int .u8 jj] 5)) (.slice (some ⟨x.heap.size, 0, none⟩) 1 1) [jj] := lit8 _ _ _ _ (fun n hn => by rw [List.mem_singleton.1 hn]; omega) rfl rfl (by decide)
        have ho := three_off (x.alloc (.cells #[.int .u8 jj] 5)) (w.heap.size + 1) (.int .i64 3) (.int .i64 3) (.slice (some ⟨x.heap.size, 0, none⟩) 1 1)
        refine ⟨_, rfl, ?_, three_low (S2.out.2.2.alloc S2.out.2.2.size _) _ (by omega) _ _ _⟩
        rw [HN.out]
        exact ⟨show (Lit.int .i64 3).wf = true by decide, show (Lit.int .i64 3).wf = true by decide, _, rfl, hU.part (fun g hg => ho.1 g (by have hq : x.heap.size = g := Option.some.inj hg; omega)) ho.2⟩
    · obtain rfl : j = 3 := by omega
      have HN := Go.Lib.hid (well_all hall.out)
      obtain ⟨d0, d1, d2⟩ := ST.out.2.1.cells
      have ff := ST.out.2.1.free
      go_wp2
      (try simp only [Exit.inBlock, Exit.then])
      obtain ⟨r0, r1, r2⟩ := (ST.out.2.1.laid (.int .i64 0) (.int .i64 0) (.slice none 0 0)).cells
      unfold three at r0 r1 r2
      refine bodyPost_ret (v := .agg #[.int .i64 0, .int .i64 0, .slice none 0 0]) (by simp [results, Tryd.results19, go_sem, r0, r1, r2]) rfl ?_
      refine ⟨_, rfl, ?_, three_low ST.out.2.2 _ (by omega) _ _ _⟩
      rw [HN.out]
      exact ⟨by decide, by decide, _, rfl, U8s.nil _⟩
end Go.Proofs.YtanmepgplpijkaaDoor.Att
namespace Go.Proofs.YtanmepgplpijkaaDoor.Att
open Go.RowKit Mem Segm Oct
structure Wst (base : Nat) (v : Value) (F0 : Nat → Prop) (s : World) (l : List Nat) (F : Nat → Prop) (W : World) : Prop where
  wr : Wr W base v l F
  on : Only F0 s W
  gr : Grow F0 F s
section
variable {base : Nat} {v x : Value} {F0 F : Nat → Prop} {s W W2 : World} {l l2 : List Nat} {e : Ending}
theorem Wst.new (h : Wr s base v l F) : Wst base v F s l F s := ⟨h, Only.refl _ _, fun _ h => .inl h⟩
theorem Wst.below (h : Wst base v F0 s l F W) (hb : Below W.heap.size W W2) : Wst base v F0 s l F W2 :=
  ⟨h.wr.below hb, h.on.trans (Only.of hb), h.gr⟩
theorem Wst.add (h : Wst base v F0 s l F W) (k : AddF base v x l2 F W e W2) : ∃ F2, e = .returned x ∧ Wst base v F0 s l2 F2 W2 := by
  obtain ⟨F2, h1, h2, h3, h4⟩ := k
  have h5 := two_puts F F2 h2 h.on h.gr h.wr h3 h4 (x := x)
  obtain ⟨F3, e3, k1, k2, k3⟩ := h5
  exact ⟨F3, h1, k1, k2, k3⟩
theorem Wst.size (h : Wst base v F0 s l F W) : s.heap.size ≤ W.heap.size := h.on.size
theorem Wst.then_ {F2 : Nat → Prop} (h : Wst base v F0 s l F W) (k : Wst base v F W l2 F2 W2) : Wst base v F0 s l2 F2 W2 := by
  have h5 := two_puts F F2 k.wr h.on h.gr h.wr k.on k.gr (x := v)
  obtain ⟨F3, e3, k1, k2, k3⟩ := h5
  exact ⟨k.wr, k2, fun j hj => by
    rcases k.gr j hj with q | q
    · exact h.gr j q
    · exact .inr (Nat.le_trans h.size q)⟩
end
theorem Wst.only {base : Nat} {v : Value} {F0 F : Nat → Prop} {s W W2 : World} {l : List Nat} (h : Wst base v F0 s l F W) (ho : Only F W W2) : Only F0 s W2 :=
  ⟨ho.os.trans h.on.os, ho.tape.trans h.on.tape, ho.output.trans h.on.output, Nat.le_trans h.on.size ho.size, fun k hk hf => (ho.block k (Nat.lt_of_lt_of_le hk h.on.size) (fun q => (h.gr k q).elim hf (fun r => by omega))).trans (h.on.block k hk hf)⟩
theorem wr_small {W : World} {base : Nat} {v : Value} {l : List Nat} {F : Nat → Prop} (h : Wr W base v l F) : Small l := let ⟨_, _, _, _, _, _, h5, _⟩ := h; h5
set_option maxHeartbeats 1000000 in
theorem sizedO_any (v : Value) (A : Option Addr) (c : Nat) (base : Nat) (l m : List Nat) (F : Nat → Prop) (w : World) (hW : Wr w base v l F) (hx : ∀ W, Only F w W → U8s W (.slice A m.length c) m) (hlen : l.length + m.length ≤ 800000) (hbase : base ≤ w.heap.size) :
    Calls Tryd.prog 86 #[v, .slice A m.length c] w (AddF base v (.bool (decide (m.length ≤ 255))) (l ++ sizedS m) F w) := by
  have hW0 := hW
  obtain ⟨b, s, hv, -⟩ := hW0
  have HW := Go.Lib.hid hW
  by_cases hm : m.length ≤ 255
  · have z1 : (m.length : Int) ≤ 255 := by omega
    have e1 : decide (m.length ≤ 255) = true := decide_eq_true hm
    have e2 : l ++ sizedS m = (l ++ [lo8 (m.length : Int)]) ++ m := by unfold sizedS; rw [if_pos hm, List.append_assoc]
    rw [e1, e2]
    have CU := Go.Lib.hid (w8_put v base l F (m.length : Int) w hW (by omega) hbase)
    have CP := Go.Lib.hid (fun F1 W (h1 : Wr W base v (l ++ [lo8 (m.length : Int)]) F1) (h2 : U8s W (.slice A m.length c) m) (h3 : base ≤ W.heap.size) => put_any v (.slice A m.length c) base (l ++ [lo8 (m.length : Int)]) m F1 W h1 h2 (by simp; omega) h3)
    have HX := Go.Lib.hid hx
    have HB := Go.Lib.hid hbase
    clear hx hW e1 e2
    generalize [lo8 (m.length : Int)] = H at CU CP ⊢
    subst hv
    go_enter Tryd.func86, Tryd.ntmps86
    go_wp2_with (first
      | (go_at_call 82; refine (CU.out).mono ?_; rintro e w1 ⟨F1, rfl, h1, h2, h3⟩; have H1 := Go.Lib.hid h1; have H2 := Go.Lib.hid h2; have H3 := Go.Lib.hid h3; clear h1 h2 h3)
      | (go_at_call 101; have k1 := HX.out _ H2.out; have k2 := H1.out; have k3 := Nat.le_trans HB.out H2.out.size; refine (CP.out _ _ k2 k1 k3).mono ?_; clear k1 k2 k3; rintro e w2 ⟨F2, rfl, h1, h2, h3⟩; have K1 := Go.Lib.hid h1; have K2 := Go.Lib.hid h2; have K3 := Go.Lib.hid h3; clear h1 h2 h3))
    go_ret
    exact two_puts F1 F2 K1.out H2.out H3.out H1.out K2.out K3.out
  · have z1 : (m.length : Int) > 255 := by omega
    have e1 : decide (m.length ≤ 255) = false := decide_eq_false hm
    have e2 : l ++ sizedS m = l := by unfold sizedS; rw [if_neg hm, List.append_nil]
    rw [e1, e2]
    clear hx hW e1 e2
    subst hv
    go_enter Tryd.func86, Tryd.ntmps86
    go_wp2
    go_ret
    exact ⟨F, rfl, HW.out, Only.refl _ _, fun k hk => .inl hk⟩
set_option maxHeartbeats 1000000 in
theorem longO_any (v : Value) (A : Option Addr) (c : Nat) (base : Nat) (l m : List Nat) (F : Nat → Prop) (w : World) (hW : Wr w base v l F) (hx : ∀ W, Only F w W → U8s W (.slice A m.length c) m) (hlen : l.length + m.length ≤ 800000) (hbase : base ≤ w.heap.size) :
    Calls Tryd.prog 85 #[v, .slice A m.length c] w (AddF base v (.bool (decide (m.length ≤ 65535))) (l ++ longS m) F w) := by
  have hW0 := hW
  obtain ⟨b, s, hv, -⟩ := hW0
  have HW := Go.Lib.hid hW
  by_cases hm : m.length ≤ 65535
  · have z1 : (m.length : Int) ≤ 65535 := by omega
    have e1 : decide (m.length ≤ 65535) = true := decide_eq_true hm
    have e2 : l ++ longS m = (l ++ [lo8 ((m.length : Int) / 256), lo8 (m.length : Int)]) ++ m := by unfold longS; rw [if_pos hm, List.append_assoc]
    rw [e1, e2]
    have CU := Go.Lib.hid (w16_put v base l F (m.length : Int) w hW (by omega) hbase)
    have CP := Go.Lib.hid (fun F1 W (h1 : Wr W base v (l ++ [lo8 ((m.length : Int) / 256), lo8 (m.length : Int)]) F1) (h2 : U8s W (.slice A m.length c) m) (h3 : base ≤ W.heap.size) => put_any v (.slice A m.length c) base (l ++ [lo8 ((m.length : Int) / 256), lo8 (m.length : Int)]) m F1 W h1 h2 (by simp; omega) h3)
    have HX := Go.Lib.hid hx
    have HB := Go.Lib.hid hbase
    clear hx hW e1 e2
    generalize [lo8 ((m.length : Int) / 256), lo8 (m.length : Int)] = H at CU CP ⊢
    subst hv
    go_enter Tryd.func85, Tryd.ntmps85
    go_wp2_with (first
      | (go_at_call 100; refine (CU.out).mono ?_; rintro e w1 ⟨F1, rfl, h1, h2, h3⟩; have H1 := Go.Lib.hid h1; have H2 := Go.Lib.hid h2; have H3 := Go.Lib.hid h3; clear h1 h2 h3)
      | (go_at_call 101; have k1 := HX.out _ H2.out; have k2 := H1.out; have k3 := Nat.le_trans HB.out H2.out.size; refine (CP.out _ _ k2 k1 k3).mono ?_; clear k1 k2 k3; rintro e w2 ⟨F2, rfl, h1, h2, h3⟩; have K1 := Go.Lib.hid h1; have K2 := Go.Lib.hid h2; have K3 := Go.Lib.hid h3; clear h1 h2 h3))
    go_ret
    exact two_puts F1 F2 K1.out H2.out H3.out H1.out K2.out K3.out
  · have z1 : (m.length : Int) > 65535 := by omega
    have e1 : decide (m.length ≤ 65535) = false := decide_eq_false hm
    have e2 : l ++ longS m = l := by unfold longS; rw [if_neg hm, List.append_nil]
    rw [e1, e2]
    clear hx hW e1 e2
    subst hv
    go_enter Tryd.func85, Tryd.ntmps85
    go_wp2
    go_ret
    exact ⟨F, rfl, HW.out, Only.refl _ _, fun k hk => .inl hk⟩
theorem fours_take {m : List Nat} {j n : Nat} (h : m[j]? = some n) : fours (m.take (j + 1)) = fours (m.take j) ++ big n 4 := by
  rw [List.take_add_one, h, Option.toList_some, fours_append]
  simp [fours]
set_option maxHeartbeats 2000000 in
theorem putAll_any (v x : Value) (base : Nat) (l m : List Nat) (F0 : Nat → Prop) (s : World) (hW : Wr s base v l F0) (hx : ∀ W, Only F0 s W → U32s W x m) (hlen : l.length + 4 * m.length ≤ 800000) (hbase : base ≤ s.heap.size) :
    Calls Tryd.prog 83 #[v, x] s (fun e w' => e = .returned (.tuple #[]) ∧ ∃ F', Wst base v F0 s (l ++ fours m) F' w') := by
  have hx0 := hx s (Only.refl _ _)
  obtain ⟨A, c, rfl, hlc, hc, -, -⟩ := hx0.open_
  have HX := Go.Lib.hid hx
  have S0 := Go.Lib.hid (Wst.new hW)
  have HB := Go.Lib.hid hbase
  have CU := Go.Lib.hid (fun (n : Nat) (L : List Nat) (F : Nat → Prop) (W : World) (h : Wr W base v L F) (hl : L.length ≤ 900000) (hb : base ≤ W.heap.size) => w32_put v base L F n W h hl hb)
  clear hx hx0 hW
  go_enter Tryd.func83, Tryd.ntmps83
  go_wp2
  go_loopw [8] (fun v8 wx => ∃ (j : Nat) (F : Nat → Prop), j ≤ m.length ∧ v8 = .int .i64 j ∧ Hid (Wst base v F0 s (l ++ fours (m.take j)) F wx)) (fun v8 _ => m.length - (intOf v8).toNat)
  case atStart => exact ⟨0, F0, Nat.zero_le _, rfl, Go.Lib.hid (by rw [List.take_zero]; show Wst base v F0 s (l ++ []) F0 s; rw [List.append_nil]; exact S0.out)⟩
  case round =>
    obtain ⟨j, F, hj, rfl, ST⟩ := hrel
    by_cases hlt : j < m.length
    · obtain ⟨b, off, n, rfl, hbl, hn, hn32, hcell⟩ := (HX.out _ ST.out.on).at_ hlt
      have z0 : (0 : Int) ≤ (j : Int) := by omega
      have z1 : (j : Int) < (m.length : Int) := by omega
      have HT := Go.Lib.hid (fours_take hn)
      have CN := Go.Lib.hid (CU.out n _ F wr ST.out.wr (by rw [List.length_append, fours_len, List.length_take]; omega) (Nat.le_trans HB.out ST.out.size))
      clear hn
      go_wp2_with (go_at_call 84; refine (CN.out).mono ?_; intro e w1 hA; obtain ⟨F2, rfl, hS⟩ := ST.out.add hA; have S2 := Go.Lib.hid hS; clear hA hS)
      go_roundw
      case rel =>
        refine ⟨j + 1, F2, hlt, by go_num, Go.Lib.hid ?_⟩
        rw [HT.out, ← put4, ← List.append_assoc]
        exact S2.out
      case measure => simp [intOf]; omega
    · obtain rfl : j = m.length := by omega
      have z1 : decide ((m.length : Int) < (m.length : Int)) = false := by simp
      rw [List.take_length] at ST
      go_wp2
      go_end0
      exact ⟨rfl, F, ST.out⟩
end Go.Proofs.YtanmepgplpijkaaDoor.Att
