/- path's parts over the text that the law's small living call reads. path's Parse of the text that the law's small living call reads. -/
import Derived.RangeFuncNested
import Derived.RangeFuncBound
import Derived.RangeFuncCalls
import Derived.RangeFuncLeaves
import Derived.RangeFuncBox
import Derived.Shelf.Abstract
import Derived.Shelf.RegionOpen
import Derived.WalkKit
import Derived.OwnWalkIn
import Derived.TacticsInMore
import Derived.LoopNIn
import Derived.LoopIn
import Derived.Test.YtcdbeljmniaofaaGreatDoorParseAll
import Derived.Test.YtcdbeljmniaofaaGreatDoorPathMade
import Derived.Test.YtcdbeljmniaofaaGreatDoorPathTells

/- path's parts over the text that the law's small living call reads. -/
namespace Go.Proofs.YtcdbeljmniaofaaGreatDoor.Seg
open Go.RowKit Go.Shelf Mem Rise Pfx Dec Nums

attribute [local go_sem] Oper.semAt_some

/-- What is left of the text at each round, each round's part, and whether it is a set's. -/
def leftT : Nat → ByteArray
  | 0 => ⟨#[49, 32, 50, 32, 123, 51, 32, 52, 125, 32, 53]⟩
  | 1 => ⟨#[123, 51, 32, 52, 125, 32, 53]⟩
  | 2 => ⟨#[53]⟩
  | _ => ⟨#[]⟩
def partT : Nat → ByteArray
  | 0 => ⟨#[49, 32, 50]⟩
  | 1 => ⟨#[51, 32, 52]⟩
  | _ => ⟨#[53]⟩
def partB : Nat → Bool
  | 1 => true
  | _ => false
abbrev Three := { k : Nat // k < 3 }
abbrev encT (x : Three) : Array Value := #[.string (partT x.1), .bool (partB x.1)]

theorem parts_any (s : ByteArray) (w : World) : Calls Tryz.prog 32 #[.string s] w fun e w' => e = .returned (.func (.func 42) #[] #[.pointer (some ⟨w.heap.size, 0, none⟩)]) ∧ w' = w.alloc (.cells #[.string s] 9) := by
  have hmf : ∀ (fn : Fn) (first cap : Array Value) (w : World), (Instr.makeFunc fn first cap).run Tryz.prog w = .ok (.func fn first cap) w := fun _ _ _ _ => rfl
  go_enter Tryz.func32, Tryz.ntmps32
  go_wp2
  go_ret
  exact ⟨rfl, rfl⟩

/-- What the library says of these texts. -/
theorem pre_at (s t : ByteArray) (f : Bool) (h1 : Lib.hasPrefix s.data.toList [123] = f) (h2 : (Lib.trimPrefix s.data.toList [123]).toArray = t.data) (w : World) :
    Calls Tryz.prog 43 #[.string s, .string ⟨#[123]⟩] w fun e w' => e = .returned (.tuple #[.string t, .bool f]) ∧ w = w' :=
  (Tryz.strings_CutPrefix s ⟨#[123]⟩ w).mono fun e w' ⟨he, hw⟩ => ⟨by
    have e1 : (⟨#[123]⟩ : ByteArray).data.toList = [123] := rfl
    rw [he, e1, h1, h2], hw.symm⟩
theorem trim_at (s t : ByteArray) (h : (Lib.trimPrefix s.data.toList [32]).toArray = t.data) (w : World) :
    Calls Tryz.prog 45 #[.string s, .string ⟨#[32]⟩] w fun e w' => e = .returned (.string t) ∧ w = w' :=
  (Tryz.strings_TrimPrefix s ⟨#[32]⟩ w).mono fun e w' ⟨he, hw⟩ => ⟨by
    have e1 : (⟨#[32]⟩ : ByteArray).data.toList = [32] := rfl
    rw [he, e1, h], hw.symm⟩
theorem index_at (s : ByteArray) (k : Int) (h : Lib.index s.data.toList [32, 123] = k) (hs : s.size < 4294967281) (w : World) (hv : ErrVars w) :
    Calls Tryz.prog 46 #[.string s, .string ⟨#[32, 123]⟩] w fun e w' => e = .returned (.int .i64 k) ∧ w = w' := by
  obtain ⟨m, hm⟩ := hv.top
  exact (Tryz.strings_Index s ⟨#[32, 123]⟩ m w hs hm).mono fun e w' ⟨he, hw⟩ => ⟨by
    have e1 : (⟨#[32, 123]⟩ : ByteArray).data.toList = [32, 123] := rfl
    rw [he, e1, h], hw.symm⟩
theorem cut_brace (s a b : ByteArray) (r : Bool) (h1 : (Lib.cut s.data.toList [125]).1.toArray = a.data) (h2 : (Lib.cut s.data.toList [125]).2.1.toArray = b.data) (h3 : (Lib.cut s.data.toList [125]).2.2 = r) (hs : s.size < 4294967281) (w : World) (hv : ErrVars w) :
    Calls Tryz.prog 44 #[.string s, .string ⟨#[125]⟩] w (Tells (.tuple #[.string a, .string b, .bool r]) w) := by
  obtain ⟨m, hm⟩ := hv.top
  refine (Tryz.strings_Cut s ⟨#[125]⟩ m w hs hm).mono fun e w' ⟨he, n, hw⟩ => ?_
  have e1 : (⟨#[125]⟩ : ByteArray).data.toList = [125] := rfl
  rw [e1, h1, h2, h3] at he
  exact ⟨he, hw ▸ Mem.below_drewN w n⟩
theorem ahead_below {B : Nat} {W W' : World} {β : Type} {J : β → World → Prop} (hJ : AbidesFrom B J) {s : β} (hs : J s W) (h : Below W.heap.size W W') : J s W' :=
  hJ s W W' none hs ⟨h.os, h.tape, h.output, h.size, fun k hk _ => h.block k hk⟩ (fun r e => by cases e)

/-- The rounds so far. -/
def sofar : Nat → List Three
  | 0 => []
  | 1 => [⟨0, by decide⟩]
  | 2 => [⟨0, by decide⟩, ⟨1, by decide⟩]
  | _ => [⟨0, by decide⟩, ⟨1, by decide⟩, ⟨2, by decide⟩]

set_option maxRecDepth 100000 in
set_option maxHeartbeats 4000000 in
theorem parts1_stops (n : Nat) (w0 : World) (hv : ErrVars w0) (Bn : Nat) (w : World) (hb0 : Below w0.heap.size w0 w) (hBn : Bn < w.heap.size) (hn : 1 ≤ n) (hc : w.cell? ⟨Bn, 0, none⟩ = some (.string (leftT 0))) :
    SeqStopsK Fence.wide n Tryz.prog 42 #[.pointer (some ⟨Bn, 0, none⟩)] encT (Below w0.heap.size) (fun ys => ys = sofar 3) (fun _ => True) 3 w := fun l J Jx W hW hJ hJx hY h0 => by
  have hcW := (hW.cell (p := ⟨Bn, 0, none⟩) hBn).trans hc
  have HBW := Go.Lib.hid (hb0.trans (hW.mono hb0.size))
  have HV := Go.Lib.hid (fun (W' : World) (h : Below w0.heap.size w0 W') => hv.keep h)
  have HJ := Go.Lib.hid hJ
  have HY := Go.Lib.hid hY
  have P0 := Go.Lib.hid (pre_at (leftT 0) (leftT 0) false (by decide) (by decide))
  have P1 := Go.Lib.hid (pre_at (leftT 1) ⟨#[51, 32, 52, 125, 32, 53]⟩ true (by decide) (by decide))
  have P2 := Go.Lib.hid (pre_at (leftT 2) (leftT 2) false (by decide) (by decide))
  have I0 := Go.Lib.hid (index_at (leftT 0) 3 (by decide) (by decide))
  have I2 := Go.Lib.hid (index_at (leftT 2) (-1) (by decide) (by decide))
  have C1 := Go.Lib.hid (cut_brace ⟨#[51, 32, 52, 125, 32, 53]⟩ (partT 1) ⟨#[32, 53]⟩ true (by decide) (by decide) (by decide) (by decide))
  have T1 := Go.Lib.hid (trim_at ⟨#[32, 53]⟩ (leftT 2) (by decide))
  clear hJ hJx hY hW hc hb0 hBn hv
  refine callsIn_of_wp Tryz.func42 rfl trivial ?_ rfl
  simp only [Tryz.ntmps42, List.size_toArray, List.length_cons, List.length_nil, Nat.reduceAdd, Nat.reduceSub, Array.replicate_succ, Array.replicate_zero, List.push_toArray, List.append_toArray, List.nil_append, List.cons_append]
  gi_wp2
  gi_loopw [3] (fun v3 wr => ∃ k : Nat, k ≤ 3 ∧ v3 = .string (leftT k) ∧ J (sofar k) wr ∧ Hid (Below w0.heap.size w0 wr))
    (fun v3 _ => match v3 with | .string t => t.size | _ => 0)
  case atStart => exact ⟨0, by omega, rfl, h0, HBW⟩
  case round =>
    obtain ⟨k, hk, rfl, hJs, hbw⟩ := hrel
    match k, hk with
    | 0, _ =>
      have hJd : J (sofar 0) wr.drew := HJ.out _ _ _ none hJs ⟨rfl, rfl, rfl, Nat.le_refl _, fun _ _ _ => rfl⟩ (fun r e => by cases e)
      obtain ⟨fn, tmps, assign, body, hy, hR⟩ := HY.out (sofar 0) ⟨0, by decide⟩ wr.drew hJd (by decide)
      have hI := Go.Lib.hid (I0.out wr (HV.out _ hbw.out))
      have HBD := Go.Lib.hid (hbw.out.drew)
      simp only [leftT, partT, partB, encT] at *
      gi_wp2_with (first | (refine ⟨trivial, ?_⟩; gi_at_call 43; refine (callsIn_wide.2 (P0.out _)).mono ?_; rintro e w1 ⟨rfl, rfl⟩) | (refine ⟨trivial, ?_⟩; gi_at_call 46; refine (callsIn_wide.2 hI.out).mono ?_; rintro e w1 ⟨rfl, rfl⟩))
      have hx0 : (⟨#[49, 32, 50, 32, 123, 51, 32, 52, 125, 32, 53]⟩ : ByteArray).extract 0 3 = ⟨#[49, 32, 50]⟩ := by decide +kernel
      have hx1 : (⟨#[49, 32, 50, 32, 123, 51, 32, 52, 125, 32, 53]⟩ : ByteArray).extract 4 11 = ⟨#[123, 51, 32, 52, 125, 32, 53]⟩ := by decide +kernel
      gi_region
      gi_wp2
      refine hR.mono ?_
      rintro e w5 (⟨rfl, hJ5, hk5⟩ | ⟨rfl, hJx5⟩)
      · gi_wp2
        go_roundw
        case rel => exact ⟨1, by omega, rfl, hJ5, Go.Lib.hid (HBD.out.trans hk5)⟩
        case measure => decide
      · gi_wp2
        refine bodyPost_ret (results_none rfl _ _ _) rfl ?_
        exact ⟨⟨_, rfl⟩, .inr ⟨_, trivial, hJx5⟩⟩
    | 1, _ =>
      have hI := Go.Lib.hid (C1.out wr (HV.out _ hbw.out))
      simp only [leftT, partT] at *
      gi_wp2_with (first | (refine ⟨trivial, ?_⟩; gi_at_call 43; refine (callsIn_wide.2 (P1.out _)).mono ?_; rintro e w1 ⟨rfl, rfl⟩) | (refine ⟨trivial, ?_⟩; gi_at_call 44; refine (callsIn_wide.2 hI.out).mono ?_; rintro e w2 ⟨rfl, hb2⟩; have HB2 := Go.Lib.hid (hbw.out.trans (hb2.mono hbw.out.size)); have hJ2 := ahead_below HJ.out hJs hb2; obtain ⟨fn, tmps, assign, body, hy, hR⟩ := HY.out (sofar 1) ⟨1, by decide⟩ w2 hJ2 (by decide); simp only [encT, partT, partB] at hy) | (refine ⟨trivial, ?_⟩; gi_at_call 45; refine (callsIn_wide.2 (T1.out _)).mono ?_; rintro e w3 ⟨rfl, rfl⟩))
      refine hR.mono ?_
      rintro e w5 (⟨rfl, hJ5, hk5⟩ | ⟨rfl, hJx5⟩)
      · gi_wp2
        go_roundw
        case rel => exact ⟨2, by omega, rfl, hJ5, Go.Lib.hid (HB2.out.trans hk5)⟩
        case measure => decide
      · gi_wp2
        refine bodyPost_ret (results_none rfl _ _ _) rfl ?_
        exact ⟨⟨_, rfl⟩, .inr ⟨_, trivial, hJx5⟩⟩
    | 2, _ =>
      obtain ⟨fn, tmps, assign, body, hy, hR⟩ := HY.out (sofar 2) ⟨2, by decide⟩ wr hJs (by decide)
      have hI := Go.Lib.hid (I2.out wr (HV.out _ hbw.out))
      simp only [leftT, partT, partB, encT] at *
      gi_wp2_with (first | (refine ⟨trivial, ?_⟩; gi_at_call 43; refine (callsIn_wide.2 (P2.out _)).mono ?_; rintro e w1 ⟨rfl, rfl⟩) | (refine ⟨trivial, ?_⟩; gi_at_call 46; refine (callsIn_wide.2 hI.out).mono ?_; rintro e w1 ⟨rfl, rfl⟩))
      refine hR.mono ?_
      rintro e w5 (⟨rfl, hJ5, hk5⟩ | ⟨rfl, hJx5⟩)
      · gi_wp2
        go_roundw
        case rel => exact ⟨3, by omega, rfl, hJ5, Go.Lib.hid (hbw.out.trans hk5)⟩
        case measure => decide
      · gi_wp2
        refine bodyPost_ret (results_none rfl _ _ _) rfl ?_
        exact ⟨⟨_, rfl⟩, .inr ⟨_, trivial, hJx5⟩⟩
    | 3, _ =>
      simp only [leftT] at *
      gi_wp2
      go_end0
      exact ⟨⟨_, rfl⟩, .inl ⟨sofar 3, rfl, hJs⟩⟩
end Go.Proofs.YtcdbeljmniaofaaGreatDoor.Seg


/- path's Parse of the text that the law's small living call reads. -/
namespace Go.Proofs.YtcdbeljmniaofaaGreatDoor.Seg
open Go.RowKit Go.Shelf Mem Rise Pfx Dec Nums Segm

attribute [local go_sem] Oper.semAt_some

/-- The numbers of each part, and the pieces that they make. -/
def numsT : Nat → List Nat
  | 0 => [1, 2]
  | 1 => [3, 4]
  | _ => [5]
def segOf (k : Nat) : List Piece := if partB k then [(1, numsT k)] else joinP (numsT k) []
def pathOf (pre : List Three) : List Piece := pre.flatMap fun x => segOf x.1
theorem pathOf_snoc (pre : List Three) (x : Three) : pathOf (pre ++ [x]) = pathOf pre ++ segOf x.1 := by simp [pathOf]
theorem segOf_len (x : Three) : (segOf x.1).length = 1 := by
  obtain ⟨k, hk⟩ := x
  match k, hk with
  | 0, _ => rfl
  | 1, _ => rfl
  | 2, _ => rfl
theorem pathOf_len (pre : List Three) : (pathOf pre).length = pre.length := by
  induction pre with
  | nil => rfl
  | cons x pre ih =>
    have h : pathOf (x :: pre) = segOf x.1 ++ pathOf pre := by simp [pathOf]
    rw [h, List.length_append, segOf_len, ih, List.length_cons]; omega
theorem path_all : pathOf (sofar 3) = [(2, [1, 2]), (1, [3, 4]), (2, [5])] := rfl
theorem read_part (x : Three) : ∃ s : List UInt8, partT x.1 = strOf s ∧ s ≠ [45] ∧ s.length ≤ 1000000 ∧ (splitS s).mapM (numW 4294967295) = some (numsT x.1) := by
  obtain ⟨k, hk⟩ := x
  match k, hk with
  | 0, _ => exact ⟨[49, 32, 50], rfl, by decide, by decide, show _ = some [1, 2] by decide +kernel⟩
  | 1, _ => exact ⟨[51, 32, 52], rfl, by decide, by decide, show _ = some [3, 4] by decide +kernel⟩
  | 2, _ => exact ⟨[53], rfl, by decide, by decide, show _ = some [5] by decide +kernel⟩

/-- A store into a box that holds no number of 32 bits leaves numbers as they lay. -/
theorem u32_setG {W : World} {B : Nat} {t : TypeId} {u v : Value} {l : List Nat} (hB : Boxed W B t u) (hu : ∀ x : Nat, u ≠ .int .u32 x) (h : U32s W v l) (v' : Value) : U32s (W.setCell ⟨B, 0, none⟩ v') v l :=
  u32_grown (grownBy_setCell' W B v') h (by
    rintro b off m c rfl hm e
    injection e with e
    obtain ⟨x, hx⟩ := u32_cells h hm
    subst e
    have h1 : W.heap[B]? = some (.cells #[u] t (0, 0)) := hB
    cases off with
    | zero => rw [hB.cell] at hx; injection hx with hx; exact hu x hx
    | succ off => simp [World.cell?, h1] at hx)
theorem nums_setG {W : World} {B : Nat} {t : TypeId} {u : Value} {p : List Piece} {q : List Value} (h : Nums32 W p q) (hB : Boxed W B t u) (hu : ∀ x : Nat, u ≠ .int .u32 x) (v' : Value) : Nums32 (W.setCell ⟨B, 0, none⟩ v') p q := h.map fun _ _ _ hx => u32_setG hB hu hx v'
theorem segs_setG {W : World} {B base fb : Nat} {t : TypeId} {u v : Value} {p : List Piece} (h : OwnSegsF 36 base fb W v p) (hB : Boxed W B t u) (ht : t ≠ 36) (hu : ∀ x : Nat, u ≠ .int .u32 x) (v' : Value) : OwnSegsF 36 base fb (W.setCell ⟨B, 0, none⟩ v') v p :=
  let ⟨q, e1, e2, e3, e4⟩ := h
  ⟨q, e1.kept (grownBy_setCell' W B v') (.inr (hB.not_row ht e1).symm), nums_setG e2 hB hu v', e3, e4⟩
theorem row_ownP {W W' : World} {row : Option Nat} {v : Value} {n : Nat} {cs : List Value} (h : Row W 2 v n cs) (hg : W.grownBy W' row) (hr : ∀ r, row = some r → ∃ o : Obj, W.heap[r]? = some o ∧ o.isCells = false) : Row W' 2 v n cs := by
  obtain ⟨hl, A, c, rfl, hn, hc, hr2⟩ := h
  refine ⟨hl, A, c, rfl, hn, hc, fun h0 => ?_⟩
  obtain ⟨b, off, rfl, hlt, hcell⟩ := hr2 h0
  exact ⟨b, off, rfl, Nat.lt_of_lt_of_le hlt hg.size, fun i x hx => cell_kept (hcell i x hx) hg hr⟩
/-- The path that the text tells of. -/
abbrev livePath : List Piece := [(2, [1, 2]), (1, [3, 4]), (2, [5])]
theorem live_good : GoodS livePath := by
  refine ⟨by decide, fun i s h => ?_⟩
  match i, h with
  | 0, h =>
    obtain rfl : (2, [1, 2]) = s := by simpa using h
    exact ⟨by decide, by decide, .inr ⟨rfl, fun r h0 => absurd h0 (by decide)⟩⟩
  | 1, h =>
    obtain rfl : (1, [3, 4]) = s := by simpa using h
    exact ⟨by decide, by decide, .inl ⟨rfl, by unfold rising; decide⟩⟩
  | 2, h =>
    obtain rfl : (2, [5]) = s := by simpa using h
    refine ⟨by decide, by decide, .inr ⟨rfl, fun r _ hr => ?_⟩⟩
    obtain rfl : (1, [3, 4]) = r := by simpa using hr
    exact fun h => absurd h.1 (by decide)
  | i + 3, h => simp at h
theorem live_ptext : strOf (Lib.join (livePath.map pieceT) [32]) = leftT 0 := by
  have d1 : dec 1 = [49] := dec_one (by omega)
  have d2 : dec 2 = [50] := dec_one (by omega)
  have d3 : dec 3 = [51] := dec_one (by omega)
  have d4 : dec 4 = [52] := dec_one (by omega)
  have d5 : dec 5 = [53] := dec_one (by omega)
  have t1 : pieceT (2, [1, 2]) = [49, 32, 50] := by simp [pieceT, Dec.textL, joinS, d1, d2]
  have t2 : pieceT (1, [3, 4]) = [123, 51, 32, 52, 125] := by simp [pieceT, Dec.textL, joinS, d3, d4]
  have t3 : pieceT (2, [5]) = [53] := by simp [pieceT, Dec.textL, joinS, d5]
  have h : livePath.map pieceT = [[49, 32, 50], [123, 51, 32, 52, 125], [53]] := by simp [livePath, t1, t2, t3]
  rw [h]
  decide +kernel
theorem live_text_any (v : Value) (w : World) (hv : Segs w v livePath) : Calls Tryz.prog 24 #[v] w (Tells (.string (leftT 0)) w) := by
  rw [← live_ptext]
  refine ptext_any v livePath w hv (by simp) (fun s hs => ?_) (by decide) (fun s hs => .inl ?_) ?_
  · rcases List.mem_cons.1 hs with rfl | hs
    · exact ⟨by simp, by decide, .inr rfl⟩
    · rcases List.mem_cons.1 hs with rfl | hs
      · exact ⟨by simp, by decide, .inl rfl⟩
      · rw [List.mem_singleton.1 hs]; exact ⟨by simp, by decide, .inr rfl⟩
  · rcases List.mem_cons.1 hs with rfl | hs
    · decide
    · rcases List.mem_cons.1 hs with rfl | hs
      · decide
      · rw [List.mem_singleton.1 hs]; decide
  · have := congrArg ByteArray.size live_ptext
    rw [strOf_size] at this
    rw [this]; decide
/-- What stands between two rounds of Parse. -/
structure ParseAt (w : World) (P : List Piece) (v : Value) (X : World) : Prop where
  row : Boxed X (w.heap.size + 2) 22 v
  own : OwnSegsF 36 w.heap.size w.heap.size X v P
  r2 : Boxed X w.heap.size 22 (.slice none 0 0)
  r3 : Boxed X (w.heap.size + 1) 44 (.int .i64 0)
  rest : Below w.heap.size w X
theorem parseAt_own {β : Type} {w : World} {B : Nat} {f : β → List Piece} (hB : w.heap.size ≤ B) : OwnFrom B (fun (s : β) X => ∃ v, ParseAt w (f s) v X) := by
  rintro s X Y row ⟨v, h⟩ hg hr
  have hr2 := fun r e => (hr r e).2
  have hb : ∀ {b t u}, Boxed X b t u → Boxed Y b t u := fun {b t u} k => boxed_own (β := Unit) b t (fun _ => u) () X Y row k hg hr2
  obtain ⟨q, h1, h2, h3, h4⟩ := h.own
  exact ⟨v, hb h.row, ⟨q, own_own h1 hg hr2, h2.own hg hr2, h3, h4⟩, hb h.r2, hb h.r3, h.rest.grown hg h.rest.size fun r e => Nat.le_trans hB (hr r e).1⟩
theorem parse_step {w X X1 X2 : World} {P p2 : List Piece} {v : Value} {q q2 : List Value} {L N c4 : Nat} {A4 : Option Addr} (h : ParseAt w P v X) (hL : L = P.length) (hN : N = L + p2.length)
    (hown : X.ownsRow w.heap.size 36 2 v L (segCells P q)) (hq : Nums32 X P q) (ha : Apart v q) (hf : FreshQ w.heap.size q)
    (hb1 : Below X.heap.size X X1) (hq2 : Nums32 X1 p2 q2) (hf2 : FreshQ X.heap.size q2)
    (hown4 : X2.ownsRow w.heap.size 36 2 (.slice A4 N c4) N (segCells P q ++ segCells p2 q2)) (hg : X1.grownBy X2 v.ownBlock)
    (hat : (Value.slice A4 N c4).ownBlock = v.ownBlock ∨ (Value.slice A4 N c4).ownBlock = some X1.heap.size) (hb2 : Below w.heap.size X1 X2) :
    KeepsOthers X (X2.setCell ⟨w.heap.size + 2, 0, none⟩ (.slice A4 N c4)) ∧ ParseAt w (P ++ p2) (.slice A4 N c4) (X2.setCell ⟨w.heap.size + 2, 0, none⟩ (.slice A4 N c4)) ∧ Below w.heap.size X (X2.setCell ⟨w.heap.size + 2, 0, none⟩ (.slice A4 N c4)) := by
  subst hL hN
  have box : ∀ {B t u}, Boxed X B t u → t ≠ 36 → Boxed X2 B t u := fun {B t u} kx ht => by
    have k1 : Boxed X1 B t u := (hb1.block B kx.lt).trans kx
    exact k1.kept hg (kx.not_row ht hown)
  have r1 := box h.row (by decide)
  have r2 := box h.r2 (by decide)
  have r3 := box h.r3 (by decide)
  obtain ⟨Av, cv, hv⟩ := own_form hown
  obtain ⟨e1, e2, e3⟩ := segs_grownQ (p2 := p2) (q2 := q2) (Below.refl _ X1) (hq.keep hb1) ha hq2 (fun x hx b off m c e hm e2 => by
    have h5 := (hown.lt b e2).2
    have := hf2 x hx b off m c e hm
    omega) hg hat (Nat.le_refl _) rfl hown4
  refine ⟨?_, ⟨r1.set _, ?_, r2.other (by omega) _, r3.other (by omega) _, ?_⟩, ((hb1.mono h.rest.size).trans hb2).setCell (p := ⟨w.heap.size + 2, 0, none⟩) (by simp) _⟩
  · refine ((keeps_below hb1).trans (KeepsOthers.of_grownBy hg fun j o ej hj => ?_)).trans (KeepsOthers.setCell _ _ _)
    rcases hown.2 with ⟨rfl, _⟩ | ⟨g', cap, cur, rfl, _, hgb, _⟩
    · simp [Value.ownBlock] at ej
    · simp only [Value.ownBlock, Option.some.injEq] at ej
      subst ej
      have h5 := (hb1.block _ (Array.getElem?_eq_some_iff.1 hgb).1).trans hgb
      rw [h5] at hj
      cases hj
      rfl
  · rw [hv] at r1
    exact ⟨_, e1.kept (grownBy_setCell' X2 _ _) (.inr (r1.not_row (by decide) e1).symm), e2.set r1 _, e3, hf.append (hf2.lower h.rest.size)⟩
  · exact ((h.rest.trans (hb1.mono h.rest.size)).trans hb2).setCell (p := ⟨w.heap.size + 2, 0, none⟩) (by simp) _

set_option maxRecDepth 100000 in
set_option maxHeartbeats 4000000 in
theorem pparse_live (w : World) (hv : ErrVars w) :
    Calls Tryz.prog 21 #[.string (leftT 0)] w fun e w' => (∃ A c, e = .returned (.tuple #[.slice A 3 c, .int .i64 0]) ∧ Segs w' (.slice A 3 c) [(2, [1, 2]), (1, [3, 4]), (2, [5])]) ∧ Below w.heap.size w w' := by
  obtain ⟨i1, E1⟩ := elemSeg
  have HV := Go.Lib.hid (fun (W' : World) (h : Below w.heap.size w W') => hv.keep h)
  have htt : ((leftT 0).toList == [45]) = false := by rw [show leftT 0 = strOf [49, 32, 50, 32, 123, 51, 32, 52, 125, 32, 53] from rfl, toList_strOf]; decide
  refine (callsIn_wide (n := 5)).1 ?_
  refine callsIn_of_wp_marks Tryz.func21 rfl trivial ?_ rfl
  simp only [Tryz.ntmps21, List.size_toArray, List.length_cons, List.length_nil, Nat.reduceAdd, Nat.reduceSub, Array.replicate_succ, Array.replicate_zero, List.push_toArray, List.append_toArray, List.nil_append, List.cons_append]
  obtain ⟨S, hS⟩ : ∃ S, S = leftT 0 := ⟨_, rfl⟩
  rw [← hS] at htt ⊢
  have HS := Go.Lib.hid hS
  clear hS hv
  gi_wp2_with (refine ⟨trivial, ?_⟩; gi_at_call 32; refine (callsIn_wide.2 (parts_any S _)).mono ?_; rintro e w' ⟨rfl, rfl⟩)
  have bR := Boxed.new w 22 (.slice none 0 0)
  have bE := Boxed.new (w.alloc (.cells #[.slice none 0 0] 22)) 44 (.int .i64 0)
  have bL := Boxed.new ((w.alloc (.cells #[.slice none 0 0] 22)).alloc (.cells #[.int .i64 0] 44)) 22 (.slice none 0 0)
  have bS := Boxed.new (((w.alloc (.cells #[.slice none 0 0] 22)).alloc (.cells #[.int .i64 0] 44)).alloc (.cells #[.slice none 0 0] 22)) 9 (.string S)
  simp only [World.size_alloc] at bE bL bS
  have hB0 : Below w.heap.size w ((((w.alloc (.cells #[.slice none 0 0] 22)).alloc (.cells #[.int .i64 0] 44)).alloc (.cells #[.slice none 0 0] 22)).alloc (.cells #[.string S] 9)) :=
    ((((Below.refl _ w).alloc (Nat.le_refl _) _).alloc (by simp) _).alloc (by simp; omega) _).alloc (by simp; omega) _
  have A0 : ParseAt w (pathOf []) (.slice none 0 0) ((((w.alloc (.cells #[.slice none 0 0] 22)).alloc (.cells #[.int .i64 0] 44)).alloc (.cells #[.slice none 0 0] 22)).alloc (.cells #[.string S] 9)) :=
    ⟨bL.alloc _, ⟨[], World.ownsRow_nil _ _ _ _, Nums32.nil _, Apart.none _, FreshQ.nil _⟩, ((bR.alloc _).alloc _).alloc _, (bE.alloc _).alloc _, hB0⟩
  refine wpIn_rangeFunc_ownG rfl (by omega) (gf := 42) (lb := #[.pointer (some ⟨w.heap.size + 1 + 1 + 1, 0, none⟩)]) rfl trivial (enters_of Tryz.func42 (by kernel_rfl) rfl)
    (parts1_stops _ w (HV.out w (Below.refl _ _)) (w.heap.size + 1 + 1 + 1) _ hB0 (by simp) (by omega) (HS.out ▸ bS.cell)) (Kp := Below w.heap.size) belowK_t (belowK_b (by simp; omega)) (Below.refl _ _) (fun _ => rfl)
    (fun pre X => ∃ v, ParseAt w (pathOf pre) v X)
    (fun _ _ _ => False)
    (parseAt_own (by simp; omega)) (fun _ _ _ _ _ h _ _ => h) ⟨_, A0⟩
    (fun x => { tmps := #[.string S, undef, .pointer (some ⟨w.heap.size, 0, none⟩), .pointer (some ⟨w.heap.size + 1, 0, none⟩), .pointer (some ⟨w.heap.size + 1 + 1, 0, none⟩), .string (partT x.1), .bool (partB x.1), undef, undef, .string S, .bool false, .string S, .func (.func 42) #[] #[.pointer (some ⟨w.heap.size + 1 + 1 + 1, 0, none⟩)], .string (partT x.1), .bool (partB x.1), undef, undef, undef, undef, undef, undef, undef, undef, undef, undef, undef, undef, undef, undef, undef, undef, undef, undef, undef, undef, undef, undef, undef, undef, undef, undef, undef], defers := [] }) ?assign ?body ?done ?stop
  case assign =>
    intro l x X K hK
    gi_wp2
    exact hK
  case body =>
    rintro l pre x X ⟨v, hX⟩ hlt
    obtain ⟨s, hs1, hs2, hs3, hs4⟩ := read_part x
    have CP := parse_listF s X hs2 hs3 (HV.out X hX.rest)
    rw [← hs1, hs4] at CP
    obtain ⟨P, hP⟩ : ∃ P, P = pathOf pre := ⟨_, rfl⟩
    have hPl : P.length ≤ 3 := by rw [hP, pathOf_len]; omega
    have hN0 : pathOf (pre ++ [x]) = P ++ segOf x.1 := by rw [hP, pathOf_snoc]
    rw [← hP] at hX
    obtain ⟨q, hown, hq, hap, hfq⟩ := hX.own
    have hrow := hX.row
    obtain ⟨L, hL⟩ : ∃ L, L = P.length := ⟨_, rfl⟩
    rw [← hL] at hown hPl
    obtain ⟨Av, cv, rfl⟩ := own_form hown
    have hl5 : (numsT x.1).length ≤ 2 := by
      obtain ⟨k, hk⟩ := x
      match k, hk with
      | 0, _ => exact (by decide : ([1, 2] : List Nat).length ≤ 2)
      | 1, _ => exact (by decide : ([3, 4] : List Nat).length ≤ 2)
      | 2, _ => exact (by decide : ([5] : List Nat).length ≤ 2)
    have hp2 : (segOf x.1).length = 1 := segOf_len x
    unfold segOf at hN0 hp2
    have HX := Go.Lib.hid hX
    have HLL := Go.Lib.hid hL
    have HQ := Go.Lib.hid hq
    have HA := Go.Lib.hid hap
    have HF := Go.Lib.hid hfq
    have HO0 := Go.Lib.hid hown
    have HRW0 := Go.Lib.hid hrow
    have HWB := Go.Lib.hid hX.rest.size
    have hmx : Tryz.prog.follows .mixedOrders = true := by kernel_rfl
    generalize numsT x.1 = l5 at CP hN0 hl5 hp2
    generalize partT x.1 = tt at CP ⊢
    have HCP := Go.Lib.hid CP
    clear hs1 hs2 hs3 hs4 CP hP hL hq hap hfq hown hX hrow
    cases hb : partB x.1
    · rw [hb] at hN0 hp2
      simp only [Bool.false_eq_true, if_false] at hN0 hp2
      have HN := Go.Lib.hid hN0
      obtain ⟨p2, hpp⟩ : ∃ p2, p2 = joinP l5 [] := ⟨_, rfl⟩
      rw [← hpp] at HN hp2
      have HP2 := Go.Lib.hid hpp
      have HPL := Go.Lib.hid hp2
      clear hN0 hpp hb hp2
      gi_wp2_with (refine ⟨trivial, ?_⟩; gi_at_call 33; refine (callsIn_wide.2 HCP.out).mono ?_; rintro e Y ⟨⟨A5, c5, rfl, hu5, ho5⟩, hbY⟩; have HO := Go.Lib.hid (own_keep HO0.out hbY); have HRW := Go.Lib.hid (below_box hbY HRW0.out.lt HRW0.out); have cN := HRW.out.cell; have CQ := Go.Lib.hid (seq_any _ l5 Y.drew (hu5.keep ((Below.refl _ _).drew)) (by omega)))
      refine wpIn_round_held (fun _ => True) hmx (by kernel_rfl) (fun ⟨_, _, h⟩ => h) trivial (fun _ => ?_)
      refine wpAnyH_take (i := 1) (oi := _) (v := ?_) rfl (by kernel_rfl) (by kernel_rfl) (by kernel_rfl) (fun _ _ _ h => h) (Or.inl ⟨by rfl, ?_⟩) trivial ?_
      rotate_left
      · (intro w hSw; (try dsimp only at hSw); go_simp)
        try with_reducible rfl
      try simp only [Act.put, List.setIfInBounds_toArray]
      refine wpAnyH_ready (rs := [0, 2]) (by kernel_rfl) (by simp) ?_
      refine AllReadyH.cons rfl (fun K hK => ?_) (AllReadyH.cons rfl (fun K hK => ?_) AllReadyH.nil)
      · go_simp
        refine hK.out _ _ trivial (fun _ => ?_)
        clear hK K
        try simp only [Act.put, List.setIfInBounds_toArray, List.set_cons_zero, List.set_cons_succ]
        refine wpAnyH_ready (rs := [2]) (by kernel_rfl) (by simp) ?_
        refine AllReadyH.cons rfl (fun K hK => ?_) AllReadyH.nil
        go_simp
        go_at_call 9
        refine (CQ.out).mono ?_
        rintro e X3 ⟨v3, rfl, hs3, hb3⟩
        have hb3r : Below Y.heap.size Y X3 := Go.RowKit.Below.trans ((Below.refl _ _).drew) hb3
        have hbX3 : Below X.heap.size X X3 := Go.RowKit.Below.trans hbY (hb3r.mono hbY.size)
        obtain ⟨q2, e1, e2, e3, e4⟩ := hs3
        rw [← HP2.out] at e1 e2; rw [HPL.out] at e1
        obtain ⟨A3, c3, rfl⟩ := own_form e1
        have r3 : Boxed X3 (w.heap.size + 1 + 1) _ _ := below_box hb3r HRW.out.lt HRW.out
        have HO3 := Go.Lib.hid (own_keep HO.out hb3r)
        have HR3 := Go.Lib.hid (Row.of_own e1)
        have HE2 := Go.Lib.hid e2
        have HE4 := Go.Lib.hid (show FreshQ X.heap.size q2 from e4.lower hbY.size)
        have cN3 := r3.cell
        clear e1 e2 e3 e4
        refine hK.out _ _ trivial (fun _ => ?_)
        clear hK K
        try simp only [Act.put, List.setIfInBounds_toArray, List.set_cons_zero, List.set_cons_succ]
        refine wpAnyH_ready (rs := [3]) (by kernel_rfl) (by simp) ?_
        refine AllReadyH.cons rfl (fun K hK => ?_) AllReadyH.nil
        refine step_append_row (by rfl) (.tmp 28) (.tmp 30) (by rfl) E1 w.heap.size _ L _ (by rfl) HO3.out _ 1 _ (by rfl) HR3.out (ones_segs p2 q2 HE2.out.ones) ?_ ?_ ?_ (L + 1) rfl ?_
        · unfold maxLen; omega
        · omega
        · have := HWB.out; have := hbX3.size; omega
        intro A4 c4 X4 hown4 hg4 hat4 hb4
        have r4 : Boxed X4 (w.heap.size + 1 + 1) _ _ := r3.kept hg4 (r3.not_row (by decide) HO3.out)
        have cN4 := r4.cell
        have fN4 := r4.frozen
        refine hK.out _ _ trivial (fun _ => ?_)
        clear hK K
        try simp only [Act.put, List.setIfInBounds_toArray]
        refine wpAnyH_ready (rs := [4]) (by kernel_rfl) (by simp) ?_
        refine AllReadyH.cons rfl (fun K hK => ?_) AllReadyH.nil
        go_simp
        refine hK.out _ _ trivial (fun _ => ?_)
        clear hK K
        try simp only [Act.put, List.setIfInBounds_toArray, List.set_cons_zero, List.set_cons_succ]
        refine wpAnyH_done (by kernel_rfl) ?_ _
        obtain ⟨k1, k2, k3⟩ := parse_step HX.out HLL.out (by rw [HPL.out]) HO0.out HQ.out HA.out HF.out hbX3 HE2.out HE4.out hown4 hg4 hat4 hb4
        exact ⟨k1.from _, k3, _, by rw [HN.out]; exact k2⟩
      · go_simp
        go_at_call 9
        refine (CQ.out).mono ?_
        rintro e X3 ⟨v3, rfl, hs3, hb3⟩
        have hb3r : Below Y.heap.size Y X3 := Go.RowKit.Below.trans ((Below.refl _ _).drew) hb3
        have hbX3 : Below X.heap.size X X3 := Go.RowKit.Below.trans hbY (hb3r.mono hbY.size)
        obtain ⟨q2, e1, e2, e3, e4⟩ := hs3
        rw [← HP2.out] at e1 e2; rw [HPL.out] at e1
        obtain ⟨A3, c3, rfl⟩ := own_form e1
        have r3 : Boxed X3 (w.heap.size + 1 + 1) _ _ := below_box hb3r HRW.out.lt HRW.out
        have HO3 := Go.Lib.hid (own_keep HO.out hb3r)
        have HR3 := Go.Lib.hid (Row.of_own e1)
        have HE2 := Go.Lib.hid e2
        have HE4 := Go.Lib.hid (show FreshQ X.heap.size q2 from e4.lower hbY.size)
        have cN3 := r3.cell
        clear e1 e2 e3 e4
        refine hK.out _ _ trivial (fun _ => ?_)
        clear hK K
        try simp only [Act.put, List.setIfInBounds_toArray, List.set_cons_zero, List.set_cons_succ]
        refine wpAnyH_ready (rs := [0]) (by kernel_rfl) (by simp) ?_
        refine AllReadyH.cons rfl (fun K hK => ?_) AllReadyH.nil
        go_simp
        refine hK.out _ _ trivial (fun _ => ?_)
        clear hK K
        try simp only [Act.put, List.setIfInBounds_toArray, List.set_cons_zero, List.set_cons_succ]
        refine wpAnyH_ready (rs := [3]) (by kernel_rfl) (by simp) ?_
        refine AllReadyH.cons rfl (fun K hK => ?_) AllReadyH.nil
        refine step_append_row (by rfl) (.tmp 28) (.tmp 30) (by rfl) E1 w.heap.size _ L _ (by rfl) HO3.out _ 1 _ (by rfl) HR3.out (ones_segs p2 q2 HE2.out.ones) ?_ ?_ ?_ (L + 1) rfl ?_
        · unfold maxLen; omega
        · omega
        · have := HWB.out; have := hbX3.size; omega
        intro A4 c4 X4 hown4 hg4 hat4 hb4
        have r4 : Boxed X4 (w.heap.size + 1 + 1) _ _ := r3.kept hg4 (r3.not_row (by decide) HO3.out)
        have cN4 := r4.cell
        have fN4 := r4.frozen
        refine hK.out _ _ trivial (fun _ => ?_)
        clear hK K
        try simp only [Act.put, List.setIfInBounds_toArray]
        refine wpAnyH_ready (rs := [4]) (by kernel_rfl) (by simp) ?_
        refine AllReadyH.cons rfl (fun K hK => ?_) AllReadyH.nil
        go_simp
        refine hK.out _ _ trivial (fun _ => ?_)
        clear hK K
        try simp only [Act.put, List.setIfInBounds_toArray, List.set_cons_zero, List.set_cons_succ]
        refine wpAnyH_done (by kernel_rfl) ?_ _
        obtain ⟨k1, k2, k3⟩ := parse_step HX.out HLL.out (by rw [HPL.out]) HO0.out HQ.out HA.out HF.out hbX3 HE2.out HE4.out hown4 hg4 hat4 hb4
        exact ⟨k1.from _, k3, _, by rw [HN.out]; exact k2⟩
    · rw [hb] at hN0 hp2
      simp only [if_true] at hN0 hp2
      have HN := Go.Lib.hid hN0
      clear hN0 hb
      gi_wp2_with (first
        | (refine ⟨trivial, ?_⟩; gi_at_call 33; refine (callsIn_wide.2 HCP.out).mono ?_; rintro e Y ⟨⟨A5, c5, rfl, hu5, ho5⟩, hbY⟩; have HO := Go.Lib.hid (own_keep HO0.out hbY); have HRW := Go.Lib.hid (below_box hbY HRW0.out.lt HRW0.out); have cN := HRW.out.cell; have HU := Go.Lib.hid hu5; have HO5 := Go.Lib.hid ho5; have HBY := Go.Lib.hid hbY; have hsY := hbY.size; clear hu5 ho5)
        | (gi_at_builtin; refine wpListIn_append_row rfl (.tmp 23) (.tmp 26) rfl E1 w.heap.size _ L _ rfl (HO.out.alloc _) _ 1 [.int .i64 1, .slice A5 l5.length c5] rfl (row_seg_at _ _ _ _ rfl) (ones_two _ _ _ _) ?_ ?_ ?_ (L + 1) rfl ?_; (· unfold maxLen; omega); (· omega); (· have := HWB.out; simp; omega); intro A4 c4 X4 hown4 hg4 hat4 hb4; have r4 : Boxed X4 (w.heap.size + 1 + 1) _ _ := (HRW.out.alloc _).kept hg4 (HRW.out.not_row (by decide) HO.out); have cN4 := r4.cell; have fN4 := r4.frozen))
      have hbA : Below Y.heap.size Y (Y.alloc (.cells #[.int .i64 1, .slice A5 l5.length c5] 36)) := (Below.refl _ _).alloc (Nat.le_refl _) _
      obtain ⟨k1, k2, k3⟩ := parse_step (p2 := [(1, l5)]) (q2 := [.slice A5 l5.length c5]) HX.out HLL.out rfl HO0.out HQ.out HA.out HF.out (HBY.out.trans (hbA.mono HBY.out.size)) (Nums32.one (HU.out.keep hbA)) (FreshQ.one fun b off m c e hm => by
        have h5 := HO5.out
        injection e with e1 e3 e4
        obtain ⟨g, cap, e5, hg1, hg2⟩ := h5.form (by omega)
        rw [e1] at e5
        injection e5 with e5
        injection e5 with e5
        injection e5 with e5
        omega) hown4 hg4 hat4 hb4
      exact ⟨k1.from _, k3, _, by rw [HN.out]; exact k2⟩
  case done =>
    rintro D ys X hD rfl ⟨v, hX⟩ hK
    rw [path_all] at hX
    obtain ⟨A9, c9, hv9⟩ := hX.own.form
    have hsg := hX.own.segs
    have CG := Go.Lib.hid (good_any v livePath X hsg live_good)
    have CT := Go.Lib.hid (fun X1 (h : Below X.heap.size X X1) => live_text_any v X1 (hsg.keep h))
    rw [← HS.out] at CT
    obtain rfl : v = .slice A9 3 c9 := hv9
    have HX := Go.Lib.hid hX
    have HD := Go.Lib.hid hD
    have HK := Go.Lib.hid hK
    have HSG := Go.Lib.hid hsg
    have cL := hX.row.cell
    clear hX hD hK hsg
    gi_wp2_with (first
      | (refine ⟨trivial, ?_⟩; gi_at_call 34; refine (callsIn_wide.2 CG.out).mono ?_; rintro e X1 ⟨rfl, hb1⟩; have HB1 := Go.Lib.hid hb1; have b1 := below_box hb1 HX.out.row.lt HX.out.row; have cL1 := b1.cell)
      | (refine ⟨trivial, ?_⟩; gi_at_call 24; refine (callsIn_wide.2 (CT.out X1 HB1.out)).mono ?_; rintro e X2 ⟨rfl, hb2⟩; have HB2 := Go.Lib.hid (Go.RowKit.Below.trans HB1.out (hb2.mono HB1.out.size)); have bL := below_box HB2.out HX.out.row.lt HX.out.row; have bR2 := below_box HB2.out HX.out.r2.lt HX.out.r2; have bE2 := below_box HB2.out HX.out.r3.lt HX.out.r3; have q1 := bL.cell; have q2 := bR2.cell; have q3 := bE2.cell; have p2 := bR2.frozen; have p3 := bE2.frozen))
    have hX := HX.out
    have hD := HD.out
    have hDl := (Array.getElem?_eq_some_iff.1 HK.out).1
    have hK2 := (HB2.out.block D hDl).trans HK.out
    have hK' := ((KeepsOthers.setCell X2 ⟨w.heap.size, 0, none⟩ (.slice A9 3 c9)).trans (KeepsOthers.setCell _ ⟨w.heap.size + 1, 0, none⟩ (.int .i64 0))).same D _ hK2 rfl
    have b1' := (bR2.set (.slice A9 3 c9)).other (B' := w.heap.size + 1) (by omega) (.int .i64 0)
    have b2' := (bE2.other (B' := w.heap.size) (by omega) (.slice A9 3 c9)).set (.int .i64 0)
    have hgp := grownBy_putObj' ((X2.setCell ⟨w.heap.size, 0, none⟩ (.slice A9 3 c9)).setCell ⟨w.heap.size + 1, 0, none⟩ (.int .i64 0)) D (.deferred none)
    have hrp : ∀ r, some D = some r → ∃ o : Obj, ((X2.setCell ⟨w.heap.size, 0, none⟩ (.slice A9 3 c9)).setCell ⟨w.heap.size + 1, 0, none⟩ (.int .i64 0)).heap[r]? = some o ∧ o.isCells = false := fun r e => by cases e; exact ⟨_, hK', rfl⟩
    have d1 := cell_kept b1'.cell hgp hrp
    have d2 := cell_kept b2'.cell hgp hrp
    have hbw2 : Below w.heap.size w X2 := hX.rest.trans (HB2.out.mono hX.rest.size)
    have hend := ((hbw2.setCell (p := ⟨w.heap.size, 0, none⟩) (Nat.le_refl _) (.slice A9 3 c9)).setCell (p := ⟨w.heap.size + 1, 0, none⟩) (by simp) (.int .i64 0)).trans (belowK_b (w := w) (Nat.le_refl _) _ D _ (.deferred none) (by simp at hD; omega) hK' rfl rfl)
    have hs1 := segs_setG (hX.own.keep HB2.out) bR2 (by decide) (fun x e => by cases e) (.slice A9 3 c9)
    have hs2 := segs_setG hs1 (bE2.other (B' := w.heap.size) (by omega) (.slice A9 3 c9)) (by decide) (fun x e => by cases e) (.int .i64 0)
    obtain ⟨q', e1, e2, _, _⟩ := hs2
    refine ⟨by simp, .inl ⟨_, _, rfl, run_takeDeferred hK', ?_⟩⟩
    exact ⟨.tuple #[.slice A9 3 c9, .int .i64 0], by simp [results, Tryz.results21, go_sem, d1, d2], ⟨A9, c9, rfl, q', row_ownP (Row.of_own e1) hgp hrp, e2.own hgp hrp⟩, hend⟩
  case stop =>
    rintro D c' pre X _ _ h _
    exact h.elim
end Go.Proofs.YtcdbeljmniaofaaGreatDoor.Seg
