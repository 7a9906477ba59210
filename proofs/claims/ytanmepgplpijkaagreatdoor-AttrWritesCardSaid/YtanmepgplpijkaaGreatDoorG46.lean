/- The laws' small living call: an origin's bytes. What was read of a way, and what is told of it, in two boxes. Attributes in a box, as a law keeps them. Plain mathematics: what good attributes are written as is read as they are. It speaks of no function of the program. AttrWrites: the law's walk. -/
import Derived.Test.YtanmepgplpijkaaGreatDoorG41
import Derived.Test.YtanmepgplpijkaaGreatDoorG45
import Derived.Test.YtanmepgplpijkaaGreatDoorG39
import Derived.Test.YtanmepgplpijkaaGreatDoorG14
import Derived.Deep.DeepCutAuto
namespace Go.Proofs.YtanmepgplpijkaaGreatDoor.Att
open Go.RowKit Mem Segm Oct Seg
def a2 : At := ⟨2, 0, [], 0, 0, 0, 0, 0, []⟩
theorem good_a2 : goodA a2 = true := by decide +kernel
theorem enc_a2 : encA a2 = [64, 1, 1, 0] := by decide +kernel
theorem dec_a2 : outA (decodeA [64, 1, 1, 2]) = (⟨2, 2, [], 0, 0, 0, 0, 0, []⟩, noneN) := by kernel_rfl
theorem own_lit8 (w : World) : U8s (w.alloc (.cells #[.int .u8 64, .int .u8 1, .int .u8 1, .int .u8 2] 5)) (.slice (some ⟨w.heap.size, 0, none⟩) 4 4) [64, 1, 1, 2] :=
  U8s.of_own (base := w.heap.size) (World.ownsRow_lit (base := w.heap.size) (e := 5) (size := 1) w #[.int .u8 64, .int .u8 1, .int .u8 1, .int .u8 2] 4 (Nat.le_refl _) (by decide) rfl) (by unfold Small; decide)
set_option maxRecDepth 100000 in
set_option maxHeartbeats 2000000 in
theorem lives8_any (w : World) (hS : Shp w) : Calls Tryz.prog 8 #[] w (Tells (.bool true) w) := by
  have CE := Go.Lib.hid (show Calls Tryz.prog 5 #[.agg #[.int .i64 2, .int .i64 0, .slice none 0 0, .int .u32 0, .int .u32 0, .int .u32 0, .int .u32 0, .int .u32 0, .slice none 0 0]] w (fun e w' => ∃ A c, e = .returned (.tuple #[.slice A 4 c, .int .i64 0]) ∧ U8s w' (.slice A 4 c) [64, 1, 1, 0] ∧ Below w.heap.size w w') from
    (encode_any _ a2 w ⟨⟨by decide, by decide, by decide, by decide, by decide, by decide, by decide⟩, _, _, rfl, ⟨[], Row.nil w 2, Nums32.nil w⟩, U32s.nil w⟩ hS (by decide)).mono fun e w' h => by
      rcases h with ⟨h1, _⟩ | ⟨_, A, c, h1, h2, h3⟩
      · rw [good_a2] at h1; cases h1
      · rw [enc_a2] at h1 h2
        exact ⟨A, c, h1, U8s.of_own h2 (by unfold Small; decide), h3⟩)
  have CD := Go.Lib.hid (fun (W : World) (hb : Below w.heap.size w W) => show Calls Tryz.prog 10 #[.slice (some ⟨W.heap.size, 0, none⟩) 4 4] (W.alloc (.cells #[.int .u8 64, .int .u8 1, .int .u8 1, .int .u8 2] 5)) (fun e w' => ∃ vp vc vd, e = .returned (.tuple #[.agg #[.int .i64 2, .int .i64 2, vp, .int .u32 0, .int .u32 0, .int .u32 0, .int .u32 0, .int .u32 0, vc], .agg #[.int .i64 0, .int .i64 0, vd]]) ∧ (∃ A n c, vp = .slice A n c) ∧ (∃ A n c, vc = .slice A n c) ∧ (∃ A n c, vd = .slice A n c) ∧ Below W.heap.size W w') from
    (decode_p _ [64, 1, 1, 2] _ (own_lit8 W) (by decide) (hS.keep (hb.alloc hb.size _))).mono fun e w' h => by
      obtain ⟨va, vn, h1, h2, h3, h4⟩ := h
      rw [dec_a2] at h2 h3
      obtain ⟨-, vp, vc, rfl, hP, hC⟩ := h2
      obtain ⟨vd, rfl, hd⟩ := note_form h3
      obtain ⟨Ap, cp, rfl, -, -⟩ := hP.form
      obtain ⟨Ac, cc, rfl, -, -, -, -⟩ := hC.open_
      obtain ⟨Ad, cd, rfl, -, -⟩ := hd.form
      have k : Below W.heap.size W (W.alloc (.cells #[.int .u8 64, .int .u8 1, .int .u8 1, .int .u8 2] 5)) := (Below.refl _ _).alloc (Nat.le_refl _) _
      exact ⟨_, _, _, h1, ⟨_, _, _, rfl⟩, ⟨_, _, _, rfl⟩, ⟨_, _, _, rfl⟩, k.trans (h4.mono k.size)⟩)
  clear hS
  have hs : ((txt [64, 1, 1, 0]).toList == ([64, 1, 1, 0] : List UInt8)) = true := by rw [txt_list]; decide
  go_enter Tryz.func8, Tryz.ntmps8
  go_wp2_with (first
    | (go_at_call 5; refine (CE.out).mono ?_; rintro e w1 ⟨A, c, rfl, hU, hb⟩; have B1 := Go.Lib.hid hb; have U1 := Go.Lib.hid hU; clear hU hb)
    | (go_at_call 10; first | (refine (CD.out _ B1.out).mono ?_; rintro e w2 ⟨vp, vc, vd, rfl, ⟨Ap, np, cp, rfl⟩, ⟨Ac, nc, cc, rfl⟩, ⟨Ad, nd, cd, rfl⟩, hb⟩; have B2 := Go.Lib.hid (hb.trans (((Below.refl _ w2).alloc (Nat.le_refl _) (.cells #[.int .i64 2, .int .i64 2, .slice Ap np cp, .int .u32 0, .int .u32 0, .int .u32 0, .int .u32 0, .int .u32 0, .slice Ac nc cc] 26)).alloc (by simp) (.cells #[.int .i64 0, .int .i64 0, .slice Ad nd cd] 37) |>.mono hb.size)); have t1 := text8 (U1.out.keep B2.out); have n1 : w2.heap.size < w2.heap.size + 1 := Nat.lt_succ_self _; clear hb) | (trace "FELL D"; trace_state; fail_if_success skip)))
  go_ret
  exact ⟨rfl, B1.out.trans (B2.out.mono B1.out.size)⟩
end Go.Proofs.YtanmepgplpijkaaGreatDoor.Att
namespace Go.Proofs.YtanmepgplpijkaaGreatDoor.Att
open Go.RowKit Mem Segm Oct Seg
structure Read8 (W : World) (B : Nat) (q : At) (m : No) (Ap : Option Addr) (cp : Nat) (Ac : Option Addr) (cc : Nat) (Ad : Option Addr) (cd : Nat) : Prop where
  b9 : Box9 W B 26 (.int .i64 q.has) (.int .i64 q.origin) (.slice Ap q.path.length cp) (.int .u32 q.hop) (.int .u32 q.med) (.int .u32 q.pref) (.int .u32 q.aas) (.int .u32 q.aid) (.slice Ac q.comms.length cc)
  b3 : Box3 W (B + 1) 37 (.int .i64 m.code) (.int .i64 m.sub) (.slice Ad m.data.length cd)
  at_ : Attrs W (.agg #[.int .i64 q.has, .int .i64 q.origin, .slice Ap q.path.length cp, .int .u32 q.hop, .int .u32 q.med, .int .u32 q.pref, .int .u32 q.aas, .int .u32 q.aid, .slice Ac q.comms.length cc]) q
  no : Note W (.agg #[.int .i64 m.code, .int .i64 m.sub, .slice Ad m.data.length cd]) m
theorem Read8.keep {W W' : World} {B : Nat} {q : At} {m : No} {Ap Ac Ad : Option Addr} {cp cc cd : Nat} (h : Read8 W B q m Ap cp Ac cc Ad cd) (hb : Below W.heap.size W W') : Read8 W' B q m Ap cp Ac cc Ad cd :=
  ⟨h.b9.keep hb, h.b3.keep hb, h.at_.keep hb, h.no.keep hb⟩
theorem read_boxes {x : World} {q : At} {m : No} {Ap Ac Ad : Option Addr} {cp cc cd : Nat} (hA : Hid (Attrs x (.agg #[.int .i64 q.has, .int .i64 q.origin, .slice Ap q.path.length cp, .int .u32 q.hop, .int .u32 q.med, .int .u32 q.pref, .int .u32 q.aas, .int .u32 q.aid, .slice Ac q.comms.length cc]) q)) (hN : Hid (Note x (.agg #[.int .i64 m.code, .int .i64 m.sub, .slice Ad m.data.length cd]) m)) :
    Read8 ((x.alloc (.cells #[.int .i64 q.has, .int .i64 q.origin, .slice Ap q.path.length cp, .int .u32 q.hop, .int .u32 q.med, .int .u32 q.pref, .int .u32 q.aas, .int .u32 q.aid, .slice Ac q.comms.length cc] 26)).alloc (.cells #[.int .i64 m.code, .int .i64 m.sub, .slice Ad m.data.length cd] 37)) x.heap.size q m Ap cp Ac cc Ad cd ∧
    Below x.heap.size x ((x.alloc (.cells #[.int .i64 q.has, .int .i64 q.origin, .slice Ap q.path.length cp, .int .u32 q.hop, .int .u32 q.med, .int .u32 q.pref, .int .u32 q.aas, .int .u32 q.aid, .slice Ac q.comms.length cc] 26)).alloc (.cells #[.int .i64 m.code, .int .i64 m.sub, .slice Ad m.data.length cd] 37)) := by
  have k1 : Below x.heap.size x (x.alloc (.cells #[.int .i64 q.has, .int .i64 q.origin, .slice Ap q.path.length cp, .int .u32 q.hop, .int .u32 q.med, .int .u32 q.pref, .int .u32 q.aas, .int .u32 q.aid, .slice Ac q.comms.length cc] 26)) := (Below.refl _ _).alloc (Nat.le_refl _) _
  have h9 := Box9.new x 26 (.int .i64 q.has) (.int .i64 q.origin) (.slice Ap q.path.length cp) (.int .u32 q.hop) (.int .u32 q.med) (.int .u32 q.pref) (.int .u32 q.aas) (.int .u32 q.aid) (.slice Ac q.comms.length cc)
  have e1 : (x.alloc (.cells #[.int .i64 q.has, .int .i64 q.origin, .slice Ap q.path.length cp, .int .u32 q.hop, .int .u32 q.med, .int .u32 q.pref, .int .u32 q.aas, .int .u32 q.aid, .slice Ac q.comms.length cc] 26)).heap.size = x.heap.size + 1 := by simp
  obtain ⟨y, hy⟩ : ∃ y, y = x.alloc (.cells #[.int .i64 q.has, .int .i64 q.origin, .slice Ap q.path.length cp, .int .u32 q.hop, .int .u32 q.med, .int .u32 q.pref, .int .u32 q.aas, .int .u32 q.aid, .slice Ac q.comms.length cc] 26) := ⟨_, rfl⟩
  rw [← hy] at k1 h9 e1 ⊢
  have k2 : Below y.heap.size y (y.alloc (.cells #[.int .i64 m.code, .int .i64 m.sub, .slice Ad m.data.length cd] 37)) := (Below.refl _ _).alloc (Nat.le_refl _) _
  have h3 := Box3.new y 37 (.int .i64 m.code) (.int .i64 m.sub) (.slice Ad m.data.length cd)
  rw [e1] at h3
  exact ⟨⟨h9.keep k2, h3, (hA.out.keep k1).keep k2, (hN.out.keep k1).keep k2⟩, k1.trans (k2.mono k1.size)⟩
end Go.Proofs.YtanmepgplpijkaaGreatDoor.Att
namespace Go.Proofs.YtanmepgplpijkaaGreatDoor.Att
open Go.RowKit Mem Segm Oct Seg
structure Kept (W : World) (B : Nat) (q : At) (Ap : Option Addr) (cp : Nat) (Ac : Option Addr) (cc : Nat) : Prop where
  box : Box9 W B 26 (.int .i64 q.has) (.int .i64 q.origin) (.slice Ap q.path.length cp) (.int .u32 q.hop) (.int .u32 q.med) (.int .u32 q.pref) (.int .u32 q.aas) (.int .u32 q.aid) (.slice Ac q.comms.length cc)
  at_ : Attrs W (.agg #[.int .i64 q.has, .int .i64 q.origin, .slice Ap q.path.length cp, .int .u32 q.hop, .int .u32 q.med, .int .u32 q.pref, .int .u32 q.aas, .int .u32 q.aid, .slice Ac q.comms.length cc]) q
theorem Kept.below {W W' : World} {B : Nat} {q : At} {Ap Ac : Option Addr} {cp cc : Nat} (h : Kept W B q Ap cp Ac cc) (hb : Below W.heap.size W W') : Kept W' B q Ap cp Ac cc := ⟨h.box.keep hb, h.at_.keep hb⟩
theorem segs_at {W W' : World} {v : Value} {p : List Piece} {n : Nat} (h : OwnSegsF 69 n n W v p) (hk : ∀ k, n ≤ k → W'.heap[k]? = W.heap[k]?) (hs : W.heap.size ≤ W'.heap.size) : Segs W' v p := (segs_off h hk hs).segs
end Go.Proofs.YtanmepgplpijkaaGreatDoor.Att
namespace Go.Proofs.YtanmepgplpijkaaGreatDoor.Att
open Segm Rise Oct
theorem drop_front {l r : List Nat} {n m : Nat} (h : l.length = m) : (l ++ r).drop (m + n) = r.drop n := by
  subst h
  rw [List.drop_append, List.drop_of_length_le (by omega), List.nil_append]
  congr 1
  omega
theorem take_front {l r : List Nat} {m : Nat} (h : l.length = m) : (l ++ r).take m = l := by
  subst h
  exact List.take_left
theorem quadsN_fours : ∀ (l r : List Nat), (∀ n ∈ l, n < 4294967296) → quadsN (fours l ++ r) l.length = l
  | [], r, _ => rfl
  | n :: l, r, h => by
    have ih := quadsN_fours l r (fun x hx => h x (by simp [hx]))
    unfold quadsN at ih ⊢
    rw [List.length_cons, List.range_succ_eq_map, List.map_cons, List.map_map, fours_cons, List.append_assoc]
    have e0 : val (((big n 4 ++ (fours l ++ r)).drop (4 * 0)).take 4) = n := by
      rw [Nat.mul_zero, List.drop_zero, take_front (big_len n 4)]
      exact val_big4 (h n (by simp))
    rw [e0]
    congr 1
theorem quads_fours (l : List Nat) (h : ∀ n ∈ l, n < 4294967296) : quads (fours l) = l := by
  unfold quads
  have e := quadsN_fours l [] h
  rw [List.append_nil] at e
  rw [fours_len, Nat.mul_div_cancel_left _ (by decide)]
  exact e
theorem pathIs_pathB : ∀ (p : List Piece), (∀ s ∈ p, ((s.1 = 1 ∨ s.1 = 2) ∧ 1 ≤ s.2.length ∧ s.2.length ≤ 255) ∧ ∀ n ∈ s.2, n < 4294967296) → pathIs (pathB p) = some p
  | [], _ => rfl
  | (k, l) :: p, h => by
    obtain ⟨⟨hk, h1, h2⟩, hn⟩ := h (k, l) (by simp)
    have ih := pathIs_pathB p (fun s hs => h s (by simp [hs]))
    dsimp only at hk h1 h2 hn
    have e1 : ((lo8 k : Nat) : Int) = k := by unfold lo8; omega
    have e2 : lo8 (l.length : Int) = l.length := by unfold lo8; omega
    have e3 : lo8 k = 1 ∨ lo8 k = 2 := by omega
    rw [pathB_cons]
    show pathIs (lo8 k :: lo8 (l.length : Int) :: (fours l ++ pathB p)) = _
    rw [pathIs_step, e2, if_pos ⟨e3, by omega, by rw [List.length_append, fours_len]; omega⟩, quadsN_fours l _ hn, e1]
    have e4 : (fours l ++ pathB p).drop (4 * l.length) = pathB p := by rw [← fours_len, List.drop_left]
    rw [e4, ih]
    rfl
theorem itemB_back {f k : Nat} {v r : List Nat} (h : v.length ≤ 65535) : itemOf (itemB f k v ++ r) = some ⟨f, k, v, r⟩ := by
  unfold itemB
  by_cases hf : f / 16 % 2 = 1
  · rw [if_pos hf, big2]
    show itemOf (f :: k :: (v.length / 256 % 256) :: (v.length % 256) :: (v ++ r)) = _
    have e : v.length / 256 % 256 * 256 + v.length % 256 = v.length := by omega
    unfold itemOf
    dsimp only
    rw [if_pos hf, e, if_pos (by simp), List.take_left, List.drop_left]
  · rw [if_neg hf]
    show itemOf (f :: k :: v.length :: (v ++ r)) = _
    unfold itemOf
    dsimp only
    rw [if_neg hf, if_pos (by simp), List.take_left, List.drop_left]
def partA (a : At) (j : Nat) : At := ⟨(hasUpto a.has j : Nat), if 1 ≤ j ∧ hasB a.has 1 = true then a.origin else 0, if 2 ≤ j ∧ hasB a.has 2 = true then a.path else [], if 3 ≤ j ∧ hasB a.has 3 = true then a.hop else 0, if 4 ≤ j ∧ hasB a.has 4 = true then a.med else 0, if 5 ≤ j ∧ hasB a.has 5 = true then a.pref else 0,
  if 7 ≤ j ∧ hasB a.has 7 = true then a.aas else 0, if 7 ≤ j ∧ hasB a.has 7 = true then a.aid else 0, if 8 ≤ j ∧ hasB a.has 8 = true then a.comms else []⟩
structure GoodR (a : At) : Prop where
  good : goodA a = true
  path : ∀ s ∈ a.path, ∀ n ∈ s.2, n < 4294967296
  comms : ∀ n ∈ a.comms, n < 4294967296
  ok : a.ok
theorem GoodR.parts {a : At} (h : GoodR a) : normA a = a ∧ 0 ≤ a.origin ∧ a.origin ≤ 2 ∧ goodP a.path = true ∧ lens a.path ≤ 2000 ∧ (hasB a.has 3 = true → hopB a.hop = true) ∧ a.comms.length ≤ 255 := by
  have hg := h.good
  unfold goodA waysP at hg
  simp only [Bool.and_eq_true, decide_eq_true_eq, sameA_iff, Bool.or_eq_true, Bool.not_eq_true'] at hg
  obtain ⟨⟨⟨⟨⟨h1, h2⟩, h3⟩, h4, h5⟩, h6⟩, h7⟩ := hg
  exact ⟨h1, h2, h3, h4, h5, fun hh => h6.elim (fun x => by rw [hh] at x; cases x) id, h7⟩
theorem GoodR.pathIs {a : At} (h : GoodR a) : pathIs (pathB a.path) = some a.path :=
  pathIs_pathB _ fun s hs => ⟨good_piece h.parts.2.2.2.1 hs, h.path s hs⟩
theorem part_eight {a : At} (h : normA a = a) : partA a 8 = a := by
  have e0 := congrArg At.has h
  have e1 := congrArg At.origin h
  have e2 := congrArg At.path h
  have e3 := congrArg At.hop h
  have e4 := congrArg At.med h
  have e5 := congrArg At.pref h
  have e6 := congrArg At.aas h
  have e7 := congrArg At.aid h
  have e8 := congrArg At.comms h
  obtain ⟨a0, a1, a2, a3, a4, a5, a6, a7, a8⟩ := a
  simp only [normA] at e0 e1 e2 e3 e4 e5 e6 e7 e8
  unfold partA
  simp only [At.mk.injEq]
  refine ⟨e0, ?_, ?_, ?_, ?_, ?_, ?_, ?_, ?_⟩
  · rw [← e1]; cases hasB a0 1 <;> simp
  · cases hb : hasB a0 2
    · rw [hb] at e2; rw [← e2]; simp
    · simp
  · rw [← e3]; cases hasB a0 3 <;> simp
  · rw [← e4]; cases hasB a0 4 <;> simp
  · rw [← e5]; cases hasB a0 5 <;> simp
  · rw [← e6]; cases hasB a0 7 <;> simp
  · rw [← e7]; cases hasB a0 7 <;> simp
  · cases hb : hasB a0 8
    · rw [hb] at e8; rw [← e8]; simp
    · simp
theorem part_no {a : At} {k : Nat} (h1 : 1 ≤ k) (h8 : k ≤ 8) (hb : hasB a.has (k : Int) = false) : partA a k = partA a (k - 1) := by
  have hk : k = 1 ∨ k = 2 ∨ k = 3 ∨ k = 4 ∨ k = 5 ∨ k = 6 ∨ k = 7 ∨ k = 8 := by omega
  rcases hk with rfl | rfl | rfl | rfl | rfl | rfl | rfl | rfl
  · change hasB a.has 1 = false at hb; simp [partA, hasUpto, hb]
  · change hasB a.has 2 = false at hb; simp [partA, hasUpto, hb]
  · change hasB a.has 3 = false at hb; simp [partA, hasUpto, hb]
  · change hasB a.has 4 = false at hb; simp [partA, hasUpto, hb]
  · change hasB a.has 5 = false at hb; simp [partA, hasUpto, hb]
  · change hasB a.has 6 = false at hb; simp [partA, hasUpto, hb]
  · change hasB a.has 7 = false at hb; simp [partA, hasUpto, hb]
  · change hasB a.has 8 = false at hb; simp [partA, hasUpto, hb]
theorem part_yes {a : At} (h : GoodR a) {k : Nat} (h1 : 1 ≤ k) (h8 : k ≤ 8) (hb : hasB a.has (k : Int) = true) : layA (partA a (k - 1)) k (valB a k) = partA a k := by
  obtain ⟨-, g1, g2, -⟩ := h.parts
  obtain ⟨-, -, o3, o4, o5, o6, o7⟩ := h.ok
  have hk : k = 1 ∨ k = 2 ∨ k = 3 ∨ k = 4 ∨ k = 5 ∨ k = 6 ∨ k = 7 ∨ k = 8 := by omega
  have v1 : ((val [lo8 a.origin] : Nat) : Int) = a.origin := by
    have : lo8 a.origin = a.origin.toNat := by unfold lo8; omega
    rw [this]
    simp [val]; omega
  have v2 := h.pathIs
  have v3 := val_big4 o3
  have v4 := val_big4 o4
  have v5 := val_big4 o5
  have v6 : val ((big a.aas 4 ++ big a.aid 4).take 4) = a.aas := by
    rw [take_front (big_len a.aas 4)]; exact val_big4 o6
  have v7 : val ((big a.aas 4 ++ big a.aid 4).drop 4) = a.aid := by
    have e : (big a.aas 4 ++ big a.aid 4).drop 4 = big a.aid 4 := by rw [show 4 = 4 + 0 from rfl, drop_front (big_len a.aas 4), List.drop_zero]
    rw [e]; exact val_big4 o7
  have v8 := quads_fours a.comms h.comms
  rcases hk with rfl | rfl | rfl | rfl | rfl | rfl | rfl | rfl
  · change hasB a.has 1 = true at hb; simp [partA, layA, valB, hasUpto, hb, v1]
  · change hasB a.has 2 = true at hb; simp [partA, layA, valB, hasUpto, hb, v2]
  · change hasB a.has 3 = true at hb; simp [partA, layA, valB, hasUpto, hb, v3]
  · change hasB a.has 4 = true at hb; simp [partA, layA, valB, hasUpto, hb, v4]
  · change hasB a.has 5 = true at hb; simp [partA, layA, valB, hasUpto, hb, v5]
  · change hasB a.has 6 = true at hb; simp [partA, layA, hasUpto, hb]
  · change hasB a.has 7 = true at hb; simp [partA, layA, valB, hasUpto, hb, v6, v7]
  · change hasB a.has 8 = true at hb; simp [partA, layA, valB, hasUpto, hb, v8]
theorem sub_zero {a : At} (h : GoodR a) {k : Nat} (h1 : 1 ≤ k) (h8 : k ≤ 8) (hb : hasB a.has (k : Int) = true) : subOf (longF (flagN k) (valB a k).length) k (valB a k) = 0 := by
  obtain ⟨-, g1, g2, g3, g4, g5, g6⟩ := h.parts
  obtain ⟨-, -, o3, -⟩ := h.ok
  have hO : ownF (longF (flagN k) (valB a k).length) k = flagN k := by
    generalize (valB a k).length = n
    have hk : k = 1 ∨ k = 2 ∨ k = 3 ∨ k = 4 ∨ k = 5 ∨ k = 6 ∨ k = 7 ∨ k = 8 := by omega
    unfold longF
    by_cases hn : 255 < n
    · rw [if_pos hn]
      rcases hk with rfl | rfl | rfl | rfl | rfl | rfl | rfl | rfl <;> rfl
    · rw [if_neg hn]
      rcases hk with rfl | rfl | rfl | rfl | rfl | rfl | rfl | rfl <;> rfl
  have hL : longB k (valB a k).length = true := by
    have hk : k = 1 ∨ k = 2 ∨ k = 3 ∨ k = 4 ∨ k = 5 ∨ k = 6 ∨ k = 7 ∨ k = 8 := by omega
    have e8 : (valB a 8).length = 4 * a.comms.length := by show (fours a.comms).length = _; exact fours_len _
    rcases hk with rfl | rfl | rfl | rfl | rfl | rfl | rfl | rfl
    · rfl
    · rfl
    · show longB 3 (big a.hop 4).length = true; rw [big_len]; rfl
    · show longB 4 (big a.med 4).length = true; rw [big_len]; rfl
    · show longB 5 (big a.pref 4).length = true; rw [big_len]; rfl
    · rfl
    · show longB 7 (big a.aas 4 ++ big a.aid 4).length = true; rw [List.length_append, big_len, big_len]; rfl
    · rw [e8]
      unfold longB
      rw [if_pos rfl, decide_eq_true (by omega), decide_eq_true (by omega)]; rfl
  unfold subOf
  rw [if_neg (by omega), if_neg (fun hne => hne hO), if_neg (by rw [hL]; decide)]
  by_cases k1 : k = 1
  · subst k1
    rw [if_pos rfl, if_neg]
    show ¬ 2 < val [lo8 a.origin]
    have e : lo8 a.origin = a.origin.toNat := by unfold lo8; omega
    rw [e]
    simp [val]; omega
  rw [if_neg k1]
  by_cases k2 : k = 2
  · subst k2
    rw [if_pos rfl, show valB a 2 = pathB a.path from rfl, h.pathIs]
    dsimp only
    rw [good_norm g3, g3, decide_eq_true g4]; rfl
  rw [if_neg k2]
  by_cases k3 : k = 3
  · subst k3
    rw [if_pos rfl, show valB a 3 = big a.hop 4 from rfl, val_big4 o3, g5 hb]; rfl
  rw [if_neg k3]
def oneB (a : At) (k : Nat) : List Nat := if hasB a.has (k : Int) then attrB a k else []
theorem encA_is (a : At) : encA a = oneB a 1 ++ (oneB a 2 ++ (oneB a 3 ++ (oneB a 4 ++ (oneB a 5 ++ (oneB a 6 ++ (oneB a 7 ++ (oneB a 8 ++ []))))))) := by
  show encTo a 8 = _
  simp only [encTo, oneB, List.nil_append, List.append_assoc, List.append_nil]
theorem attrB_small (a : At) {k : Nat} (h1 : 1 ≤ k) (h8 : k ≤ 8) (hl : (valB a k).length ≤ 65535) : Small (attrB a k) := by
  have hs := valB_small a k
  have hf : longF (flagN k) (valB a k).length < 256 := by
    unfold longF
    rcases flagN_is3 h1 h8 with e | e | e <;> rw [e] <;> split <;> omega
  unfold attrB itemB
  split
  · intro n hn
    simp only [List.mem_cons, List.mem_append] at hn
    rcases hn with rfl | rfl | hn | hn
    · exact hf
    · omega
    · exact big_small _ _ n hn
    · exact hs n hn
  · rename_i hq
    intro n hn
    simp only [List.mem_cons] at hn
    rcases hn with rfl | rfl | rfl | hn
    · exact hf
    · omega
    · unfold longF at hq
      rcases flagN_is3 h1 h8 with e | e | e <;> rw [e] at hq <;> split at hq <;> omega
    · exact hs n hn
theorem oneB_small {a : At} (h : GoodR a) {k : Nat} (h1 : 1 ≤ k) (h8 : k ≤ 8) : Small (oneB a k) := by
  unfold oneB
  split
  · exact attrB_small a h1 h8 (by have := valB_len h.good k; omega)
  · exact small_nil
theorem dec_step {a : At} (h : GoodR a) {k : Nat} (h1 : 1 ≤ k) (h8 : k ≤ 8) {seen : List Nat} (hs : ∀ x ∈ seen, x < k) {r : List Nat} (hr : Small r) :
    ∃ s2, (∀ x ∈ s2, x < k + 1) ∧ decF seen (partA a (k - 1)) (oneB a k ++ r) = decF s2 (partA a k) r := by
  cases hb : hasB a.has (k : Int) with
  | false =>
    refine ⟨seen, fun x hx => by have := hs x hx; omega, ?_⟩
    have e : oneB a k = [] := by unfold oneB; rw [hb]; rfl
    rw [e, List.nil_append, part_no h1 h8 hb]
  | true =>
    have e : oneB a k = attrB a k := by unfold oneB; rw [hb]; rfl
    have hl : (valB a k).length ≤ 65535 := by have := valB_len h.good k; omega
    refine ⟨k :: seen, fun x hx => ?_, ?_⟩
    · rcases List.mem_cons.1 hx with rfl | hx
      · omega
      · have := hs x hx; omega
    · have hi : itemOf (attrB a k ++ r) = some ⟨longF (flagN k) (valB a k).length, k, valB a k, r⟩ := itemB_back hl
      rw [e, decF_some ((attrB_small a h1 h8 hl).append hr) hi]
      dsimp only
      rw [if_neg (fun hm => by have := hs k hm; omega), if_pos (sub_zero h h1 h8 hb), part_yes h h1 h8 hb]
theorem dec_enc {a : At} (h : GoodR a) : decodeA (encA a) = .inr a := by
  have r9 : Small [] := small_nil
  have r8 := (oneB_small h (k := 8) (by omega) (by omega)).append r9
  have r7 := (oneB_small h (k := 7) (by omega) (by omega)).append r8
  have r6 := (oneB_small h (k := 6) (by omega) (by omega)).append r7
  have r5 := (oneB_small h (k := 5) (by omega) (by omega)).append r6
  have r4 := (oneB_small h (k := 4) (by omega) (by omega)).append r5
  have r3 := (oneB_small h (k := 3) (by omega) (by omega)).append r4
  have r2 := (oneB_small h (k := 2) (by omega) (by omega)).append r3
  show decF [] zeroA (encA a) = _
  rw [encA_is]
  obtain ⟨s1, g1, e1⟩ := dec_step h (k := 1) (by omega) (by omega) (seen := []) (fun x hx => by cases hx) r2
  obtain ⟨s2, g2, e2⟩ := dec_step h (k := 2) (by omega) (by omega) g1 r3
  obtain ⟨s3, g3, e3⟩ := dec_step h (k := 3) (by omega) (by omega) g2 r4
  obtain ⟨s4, g4, e4⟩ := dec_step h (k := 4) (by omega) (by omega) g3 r5
  obtain ⟨s5, g5, e5⟩ := dec_step h (k := 5) (by omega) (by omega) g4 r6
  obtain ⟨s6, g6, e6⟩ := dec_step h (k := 6) (by omega) (by omega) g5 r7
  obtain ⟨s7, g7, e7⟩ := dec_step h (k := 7) (by omega) (by omega) g6 r8
  obtain ⟨s8, g8, e8⟩ := dec_step h (k := 8) (by omega) (by omega) g7 r9
  have e0 : partA a (1 - 1) = zeroA := by simp [partA, hasUpto, zeroA]
  rw [e0] at e1
  rw [e1]
  refine (e2.trans (e3.trans (e4.trans (e5.trans (e6.trans (e7.trans e8)))))).trans ?_
  rw [decF_nil, part_eight h.parts.1, h.parts.1]
end Go.Proofs.YtanmepgplpijkaaGreatDoor.Att
namespace Go.Proofs.YtanmepgplpijkaaGreatDoor.Att
open Go.RowKit Mem Segm Oct Seg
theorem segs_small {W : World} {v : Value} {p : List Piece} (h : Segs W v p) : ∀ s ∈ p, ∀ n ∈ s.2, n < 4294967296 := by
  intro s hs n hn
  obtain ⟨A, c, rfl, -, -⟩ := h.form
  obtain ⟨i, hi, rfl⟩ := List.getElem_of_mem hs
  obtain ⟨b, off, x, -, -, -, -, hx⟩ := h.at_ (List.getElem?_eq_getElem hi)
  exact hx.2 n hn
theorem goodR_of {W : World} {v : Value} {q : At} (h : Attrs W v q) (hg : goodA q = true) : GoodR q := by
  obtain ⟨hok, vp, vc, rfl, hP, hC⟩ := h
  exact ⟨hg, segs_small hP, hC.2, hok⟩
set_option maxRecDepth 100000 in
set_option maxHeartbeats 8000000 in
theorem writes_walk (va : Value) (a : At) (w : World) (ha : Attrs w va a) (hS : Shp w) :
    Calls Tryz.prog 3 #[va] w (Tells (.bool true) w) := by
  have HFA := Go.Lib.hid (fun (v : Value) (W : World) (h : Attrs W v a) => few8_any v a W h)
  obtain ⟨hok, vp, vc, rfl, hP, hC⟩ := ha
  have HX := Go.Lib.hid (show Attrs w (.agg #[.int .i64 a.has, .int .i64 a.origin, vp, .int .u32 a.hop, .int .u32 a.med, .int .u32 a.pref, .int .u32 a.aas, .int .u32 a.aid, vc]) a from ⟨hok, vp, vc, rfl, hP, hC⟩)
  have X1 := Go.Lib.hid (Box9.new w 26 (.int .i64 a.has) (.int .i64 a.origin) (vp) (.int .u32 a.hop) (.int .u32 a.med) (.int .u32 a.pref) (.int .u32 a.aas) (.int .u32 a.aid) (vc))
  have X3 := Go.Lib.hid (show Below w.heap.size w (w.alloc (.cells #[.int .i64 a.has, .int .i64 a.origin, vp, .int .u32 a.hop, .int .u32 a.med, .int .u32 a.pref, .int .u32 a.aas, .int .u32 a.aid, vc] 26)) from (Below.refl _ w).alloc (Nat.le_refl _) _)
  have HS := Go.Lib.hid hS
  clear hok hP hC hS
  go_enter Tryz.func3, Tryz.ntmps3
  dsimp only [acells]
  go_upto_region 1 with fail
  obtain ⟨W0, hW0⟩ : ∃ W0, W0 = w.alloc (.cells #[.int .i64 a.has, .int .i64 a.origin, vp, .int .u32 a.hop, .int .u32 a.med, .int .u32 a.pref, .int .u32 a.aas, .int .u32 a.aid, vc] 26) := ⟨_, rfl⟩
  have hs0 := Go.Lib.hid (show w.heap.size + 1 ≤ W0.heap.size by rw [hW0]; simp)
  rw [← hW0] at X1 X3 ⊢
  clear hW0
  obtain ⟨q, hq⟩ : ∃ q, q = fewA a := ⟨_, rfl⟩
  rw [← hq] at HFA
  have HQ := Go.Lib.hid (hq ▸ cut8_few a)
  clear hq
  go_cut [2] from 8 to 9 (fun s2 wx => ∃ (Ap : Option Addr) (cp : Nat) (Ac : Option Addr) (cc : Nat), s2 = .bool false ∧ Hid (Kept wx w.heap.size q Ap cp Ac cc ∧ Below w.heap.size w wx))
  case first =>
    obtain ⟨c0, c1, c2, c3, c4, c5, c6, c7, c8⟩ := X1.out.cells
    have f1 := X1.out.free
    go_wp2_with (go_at_call 4; first | (refine (HFA.out _ _ (HX.out.keep X3.out)).mono ?_; rintro e x ⟨v1, vq, vs, rfl, rfl, hok1, hq1, hu1, hy1, hx⟩; obtain ⟨aq, cq, rfl⟩ := hq1.form; obtain ⟨ar, cr, rfl⟩ := own_form hu1; have G1 := Go.Lib.hid (And.intro hok1 (And.intro hq1 (And.intro hu1 hy1))); replace X1 := Go.Lib.hid (X1.out.keep hx); have Y3 := Go.Lib.hid (X3.out.trans (hx.mono X3.out.size)); dsimp only [acells]; clear hx hok1 hq1 hu1 hy1; clear c0 c1 c2 c3 c4 c5 c6 c7 c8 f1; obtain ⟨c0, c1, c2, c3, c4, c5, c6, c7, c8⟩ := X1.out.cells; have f1 := X1.out.free) | (trace "FELL 1"; trace_state; fail_if_success skip))
    go_meet
    have ho := nine_off x w.heap.size (.int .i64 q.has) (.int .i64 q.origin) (.slice aq q.path.length cq) (.int .u32 q.hop) (.int .u32 q.med) (.int .u32 q.pref) (.int .u32 q.aas) (.int .u32 q.aid) (.slice ar q.comms.length cr)
    have hz := hs0.out
    refine ⟨aq, cq, ar, cr, rfl, Go.Lib.hid ⟨⟨((((((((X1.out.set0 _).set1 _).set2 _).set3 _).set4 _).set5 _).set6 _).set7 _).set8 _, G1.out.1, _, _, rfl, segs_at G1.out.2.1 (fun k hk => ho.1 k (by omega)) ho.2, U32s.of_own (own_off G1.out.2.2.1 (fun k hk => ho.1 k (by omega))) G1.out.2.2.2⟩, ?_⟩⟩
    exact nine_low Y3.out w.heap.size (Nat.le_refl _) (.int .i64 q.has) (.int .i64 q.origin) (.slice aq q.path.length cq) (.int .u32 q.hop) (.int .u32 q.med) (.int .u32 q.pref) (.int .u32 q.aas) (.int .u32 q.aid) (.slice ar q.comms.length cr)
  case rest =>
    obtain ⟨Ap, cp, Ac, cc, rfl, ST⟩ := hcut
    have BW := Go.Lib.hid (Below.refl wc.heap.size wc)
    have HKB := Go.Lib.hid (fun (W : World) (h : Below wc.heap.size wc W) => (ST.out.1.below h).box)
    have HKA := Go.Lib.hid (fun (W : World) (h : Below wc.heap.size wc W) => (ST.out.1.at_.keep h))
    have HF := Go.Lib.hid (fun (v : Value) (W : World) (h : Attrs W v q) => show Calls Tryz.prog 4 #[v] W (GivesA q W) from by
      have h1 := few8_any v q W h
      rw [HQ.out.few] at h1
      exact h1)
    have CRG := Go.Lib.hid (fun v W h => refGood8 v q W h (Nat.le_trans HQ.out.bk (by decide)) HQ.out.ln (fit_more HQ.out.fit (by decide)) (Nat.le_trans HQ.out.cm (by decide)))
    have HSH := Go.Lib.hid (fun (W : World) (h : Below wc.heap.size wc W) => HS.out.keep (ST.out.2.trans (h.mono ST.out.2.size)))
    have CLV := Go.Lib.hid (fun (W : World) (h : Below wc.heap.size wc W) => lives8_any W (HSH.out W h))
    have CSZ := Go.Lib.hid (fun v W (h : Attrs W v q) (h2 : Below wc.heap.size wc W) => asize_any v q W h (HSH.out W h2) HQ.out.ln)
    obtain ⟨c0, c1, c2, c3, c4, c5, c6, c7, c8⟩ := (HKB.out _ BW.out).cells
    have T0 := Go.Lib.hid True.intro
    clear HFA HX X1 X3 hs0
    cases hg : goodA q with
    | false =>
      rw [hg] at CRG
      rw [show sizeA q = 0 by unfold sizeA; rw [hg]; rfl] at CSZ
      have CE := Go.Lib.hid (fun v W (h : Attrs W v q) (h2 : Below wc.heap.size wc W) => enc_bad h (HSH.out W h2) HQ.out.ln hg)
      clear hg
      go_wp2_with (first
        | (have tok := T0.out; go_at_call 4; first | (refine (HF.out _ _ (HKA.out _ BW.out)).mono ?_; intro e x hG; obtain ⟨va, rfl, hV, hx⟩ := hG.attrs; have Hva := Go.Lib.hid hV; clear hV; replace BW := Go.Lib.hid (BW.out.trans (hx.mono BW.out.size)); clear hx tok T0; clear c0 c1 c2 c3 c4 c5 c6 c7 c8; obtain ⟨c0, c1, c2, c3, c4, c5, c6, c7, c8⟩ := (HKB.out _ BW.out).cells; have T1 := Go.Lib.hid True.intro) | (trace "FELL 0"; trace_state; fail_if_success skip))
        | (have tok := T1.out; go_at_call 5; first | (refine (CE.out _ _ Hva.out BW.out).mono ?_; rintro e x ⟨rfl, hx⟩; replace BW := Go.Lib.hid (BW.out.trans (hx.mono BW.out.size)); clear hx tok T1; clear c0 c1 c2 c3 c4 c5 c6 c7 c8; obtain ⟨c0, c1, c2, c3, c4, c5, c6, c7, c8⟩ := (HKB.out _ BW.out).cells; have T2 := Go.Lib.hid True.intro) | (trace "FELL 1"; trace_state; fail_if_success skip))
        | (have tok := T2.out; go_at_call 6; first | (refine (CRG.out _ _ (HKA.out _ BW.out)).mono ?_; rintro e x ⟨rfl, hx⟩; replace BW := Go.Lib.hid (BW.out.trans (hx.mono BW.out.size)); clear hx tok T2; clear c0 c1 c2 c3 c4 c5 c6 c7 c8; obtain ⟨c0, c1, c2, c3, c4, c5, c6, c7, c8⟩ := (HKB.out _ BW.out).cells; have T3 := Go.Lib.hid True.intro) | (trace "FELL 2"; trace_state; fail_if_success skip))
        | (have tok := T3.out; go_at_call 4; first | (refine (HF.out _ _ (HKA.out _ BW.out)).mono ?_; intro e x hG; obtain ⟨vb, rfl, hV, hx⟩ := hG.attrs; have Hvb := Go.Lib.hid hV; clear hV; replace BW := Go.Lib.hid (BW.out.trans (hx.mono BW.out.size)); clear hx tok T3; clear c0 c1 c2 c3 c4 c5 c6 c7 c8; obtain ⟨c0, c1, c2, c3, c4, c5, c6, c7, c8⟩ := (HKB.out _ BW.out).cells; have T4 := Go.Lib.hid True.intro) | (trace "FELL 3"; trace_state; fail_if_success skip))
        | (have tok := T4.out; go_at_call 7; first | (refine (CSZ.out _ _ Hvb.out BW.out).mono ?_; rintro e x ⟨rfl, hx⟩; replace BW := Go.Lib.hid (BW.out.trans (hx.mono BW.out.size)); clear hx tok T4; clear c0 c1 c2 c3 c4 c5 c6 c7 c8; obtain ⟨c0, c1, c2, c3, c4, c5, c6, c7, c8⟩ := (HKB.out _ BW.out).cells; have T5 := Go.Lib.hid True.intro) | (trace "FELL 4"; trace_state; fail_if_success skip))
        | (have tok := T5.out; go_at_call 8; first | (refine (CLV.out _ BW.out).mono ?_; rintro e x ⟨rfl, hx⟩; replace BW := Go.Lib.hid (BW.out.trans (hx.mono BW.out.size)); clear hx tok T5; clear c0 c1 c2 c3 c4 c5 c6 c7 c8; obtain ⟨c0, c1, c2, c3, c4, c5, c6, c7, c8⟩ := (HKB.out _ BW.out).cells; have T6 := Go.Lib.hid True.intro) | (trace "FELL 5"; trace_state; fail_if_success skip)))
      go_ret
      exact ⟨rfl, ST.out.2.trans (BW.out.mono ST.out.2.size)⟩
    | true =>
      have HGR := Go.Lib.hid (goodR_of ST.out.1.at_ hg)
      rw [hg] at CRG
      rw [show sizeA q = (encA q).length by unfold sizeA; rw [hg]; rfl] at CSZ
      have CE := Go.Lib.hid (fun v W (h : Attrs W v q) (h2 : Below wc.heap.size wc W) => enc_good h (HSH.out W h2) HQ.out.ln hg)
      have CRE := Go.Lib.hid (fun v W (h : Attrs W v q) => refEncode8 v q W h hg)
      have HEL := Go.Lib.hid (show (encA q).length ≤ 100000 by have h1 := encTo_len hg 8; show (encTo q 8).length ≤ _; omega)
      have HES := Go.Lib.hid (show Small (encA q) by
        rw [encA_is]
        exact (oneB_small HGR.out (by omega) (by omega)).append ((oneB_small HGR.out (by omega) (by omega)).append ((oneB_small HGR.out (by omega) (by omega)).append ((oneB_small HGR.out (by omega) (by omega)).append ((oneB_small HGR.out (by omega) (by omega)).append ((oneB_small HGR.out (by omega) (by omega)).append ((oneB_small HGR.out (by omega) (by omega)).append ((oneB_small HGR.out (by omega) (by omega)).append small_nil))))))))
      have HDE := Go.Lib.hid (show outA (decodeA (encA q)) = (q, noneN) by rw [dec_enc HGR.out]; rfl)
      have CD := Go.Lib.hid (fun v W (h : U8s W v (encA q)) (h2 : Below wc.heap.size wc W) => decode_p v (encA q) W h HEL.out (HSH.out W h2))
      unfold DecF at CD
      rw [HDE.out] at CD
      obtain ⟨m, hm⟩ : ∃ m, m = noneN := ⟨_, rfl⟩
      rw [← hm] at CD
      have CS := Go.Lib.hid (fun va vb W (h1 : Attrs W va q) (h2 : Attrs W vb q) => show Calls Tryz.prog 11 #[va, vb] W (Tells (.bool true) W) from by
        have h3 := refSame8 va vb q q W h1 h2
        rw [show sameA q q = true from sameA_iff.2 rfl] at h3
        exact h3)
      have CT := Go.Lib.hid (fun va vb W (h1 : Note W va m) (h2 : Note W vb noneN) => show Calls Tryz.prog 12 #[va, vb] W (Tells (.bool true) W) from by
        rw [hm] at h1
        have h3 := told_any va vb noneN noneN W h1 h2
        rw [sameN_iff.2 rfl] at h3
        exact h3)
      obtain ⟨L, hL⟩ : ∃ L, L = encA q := ⟨_, rfl⟩
      rw [← hL] at CSZ CE CRE HEL HES HDE CD
      obtain ⟨i0, E0⟩ := elem8
      have hel := HEL.out
      clear hg hL hm
      go_wp2_with (first
        | (have tok := T0.out; go_at_call 4; first | (refine (HF.out _ _ (HKA.out _ BW.out)).mono ?_; intro e x hG; obtain ⟨va, rfl, hV, hx⟩ := hG.attrs; have Hva := Go.Lib.hid hV; clear hV; replace BW := Go.Lib.hid (BW.out.trans (hx.mono BW.out.size)); clear hx tok T0; clear c0 c1 c2 c3 c4 c5 c6 c7 c8; obtain ⟨c0, c1, c2, c3, c4, c5, c6, c7, c8⟩ := (HKB.out _ BW.out).cells; have T1 := Go.Lib.hid True.intro) | (trace "FELL 0"; trace_state; fail_if_success skip))
        | (have tok := T1.out; go_at_call 5; first | (refine (CE.out _ _ Hva.out BW.out).mono ?_; rintro e x ⟨A1, q1, rfl, ho, hx⟩; have HU1 := Go.Lib.hid (U8s.of_own ho HES.out); clear ho; replace BW := Go.Lib.hid (BW.out.trans (hx.mono BW.out.size)); clear hx tok T1; clear c0 c1 c2 c3 c4 c5 c6 c7 c8; obtain ⟨c0, c1, c2, c3, c4, c5, c6, c7, c8⟩ := (HKB.out _ BW.out).cells; have T2 := Go.Lib.hid True.intro) | (trace "FELL 1"; trace_state; fail_if_success skip))
        | (have tok := T2.out; go_at_call 6; first | (refine (CRG.out _ _ (HKA.out _ BW.out)).mono ?_; rintro e x ⟨rfl, hx⟩; replace BW := Go.Lib.hid (BW.out.trans (hx.mono BW.out.size)); replace HU1 := Go.Lib.hid (HU1.out.keep hx); clear hx tok T2; clear c0 c1 c2 c3 c4 c5 c6 c7 c8; obtain ⟨c0, c1, c2, c3, c4, c5, c6, c7, c8⟩ := (HKB.out _ BW.out).cells; have T3 := Go.Lib.hid True.intro) | (trace "FELL 2"; trace_state; fail_if_success skip))
        | (have tok := T3.out; go_at_call 9; first | (refine (CRE.out _ _ (HKA.out _ BW.out)).mono ?_; rintro e x5 ⟨A2, q2, rfl, ho, hx⟩; have HU2 := Go.Lib.hid (U8s.of_own ho HES.out); clear ho; replace BW := Go.Lib.hid (BW.out.trans (hx.mono BW.out.size)); replace HU1 := Go.Lib.hid (HU1.out.keep hx); clear hx tok T3; clear c0 c1 c2 c3 c4 c5 c6 c7 c8; obtain ⟨c0, c1, c2, c3, c4, c5, c6, c7, c8⟩ := (HKB.out _ BW.out).cells; have T4 := Go.Lib.hid True.intro) | (trace "FELL 3"; trace_state; fail_if_success skip))
        | (have tok := T4.out; at_builtin; first | (refine wpList_append_row rfl (.tmp 38) (.tmp 39) rfl E0 x5.heap.size _ 0 [] rfl (own_blk (Nat.le_refl _) (heap_alloc_new _ _)) _ L.length (cells8 L) rfl ((HU2.out.keep ((Below.refl _ x5).alloc (Nat.le_refl _) _)).1) (ones8 _) (by unfold maxLen; omega) (by omega) (by simp) L.length (Nat.zero_add _) ?_; intro A3 q3 x6 hown hgr hat hb; have HU3 := Go.Lib.hid (U8s.of_own (l := L) hown HES.out); have hx := ((Below.refl _ x5).alloc (Nat.le_refl _) (.cells #[] 5)).trans hb; clear hown hgr hat hb; replace BW := Go.Lib.hid (BW.out.trans (hx.mono BW.out.size)); replace HU1 := Go.Lib.hid (HU1.out.keep hx); replace HU2 := Go.Lib.hid (HU2.out.keep hx); clear hx tok T4; clear c0 c1 c2 c3 c4 c5 c6 c7 c8; obtain ⟨c0, c1, c2, c3, c4, c5, c6, c7, c8⟩ := (HKB.out _ BW.out).cells; have T5 := Go.Lib.hid True.intro) | (trace "FELL 4"; trace_state; fail_if_success skip))
        | (have tok := T5.out; go_at_call 10; first | (refine (CD.out _ _ HU3.out BW.out).mono ?_; rintro e x7 ⟨va7, vn7, rfl, hA, hN, hx7⟩; obtain ⟨hok, vp7, vc7, rfl, hP, hC⟩ := hA; obtain ⟨vd7, rfl, hD⟩ := note_form hN; obtain ⟨A7p, c7p, rfl, -, -⟩ := hP.form; obtain ⟨A7c, c7c, rfl, -, -, -, -⟩ := hC.open_; obtain ⟨A7d, c7d, rfl, -, -⟩ := hD.form; have TT := read_boxes (Go.Lib.hid (show Attrs x7 (.agg #[.int .i64 q.has, .int .i64 q.origin, .slice A7p q.path.length c7p, .int .u32 q.hop, .int .u32 q.med, .int .u32 q.pref, .int .u32 q.aas, .int .u32 q.aid, .slice A7c q.comms.length c7c]) q from ⟨hok, _, _, rfl, hP, hC⟩)) (Go.Lib.hid hN); have R3 := Go.Lib.hid TT.1; have hx := hx7.trans (TT.2.mono hx7.size); dsimp only [acells]; clear hok hP hC hD hN TT hx7; replace BW := Go.Lib.hid (BW.out.trans (hx.mono BW.out.size)); replace HU1 := Go.Lib.hid (HU1.out.keep hx); replace HU2 := Go.Lib.hid (HU2.out.keep hx); clear hx tok T5; clear c0 c1 c2 c3 c4 c5 c6 c7 c8; obtain ⟨c0, c1, c2, c3, c4, c5, c6, c7, c8⟩ := (HKB.out _ BW.out).cells; have T6 := Go.Lib.hid True.intro; have t1 := text8 HU1.out; have t2 := text8 HU2.out) | (trace "FELL 5"; trace_state; fail_if_success skip))
        | (have tok := T6.out; go_at_call 4; first | (refine (HF.out _ _ (HKA.out _ BW.out)).mono ?_; intro e x hG; obtain ⟨vb, rfl, hV, hx⟩ := hG.attrs; have Hvb := Go.Lib.hid hV; clear hV; replace BW := Go.Lib.hid (BW.out.trans (hx.mono BW.out.size)); replace R3 := Go.Lib.hid (R3.out.keep hx); clear t1 t2; clear hx tok T6; clear c0 c1 c2 c3 c4 c5 c6 c7 c8; obtain ⟨c0, c1, c2, c3, c4, c5, c6, c7, c8⟩ := (HKB.out _ BW.out).cells; have T7 := Go.Lib.hid True.intro) | (trace "FELL 6"; trace_state; fail_if_success skip))
        | (have tok := T7.out; go_at_call 7; first | (refine (CSZ.out _ _ Hvb.out BW.out).mono ?_; rintro e x ⟨rfl, hx⟩; replace BW := Go.Lib.hid (BW.out.trans (hx.mono BW.out.size)); replace R3 := Go.Lib.hid (R3.out.keep hx); clear hx tok T7; clear c0 c1 c2 c3 c4 c5 c6 c7 c8; obtain ⟨c0, c1, c2, c3, c4, c5, c6, c7, c8⟩ := (HKB.out _ BW.out).cells; obtain ⟨e0, e1, e2, e3, e4, e5, e6, e7, e8⟩ := R3.out.b9.cells; have T8 := Go.Lib.hid True.intro) | (trace "FELL 7"; trace_state; fail_if_success skip))
        | (have tok := T8.out; go_at_call 11; first | (refine (CS.out _ _ _ R3.out.at_ (HKA.out _ BW.out)).mono ?_; rintro e x ⟨rfl, hx⟩; replace BW := Go.Lib.hid (BW.out.trans (hx.mono BW.out.size)); replace R3 := Go.Lib.hid (R3.out.keep hx); clear e0 e1 e2 e3 e4 e5 e6 e7 e8; clear hx tok T8; clear c0 c1 c2 c3 c4 c5 c6 c7 c8; obtain ⟨c0, c1, c2, c3, c4, c5, c6, c7, c8⟩ := (HKB.out _ BW.out).cells; obtain ⟨d0, d1, d2⟩ := R3.out.b3.cells; have T9 := Go.Lib.hid True.intro) | (trace "FELL 8"; trace_state; fail_if_success skip))
        | (have tok := T9.out; go_at_call 12; first | (refine (CT.out _ _ _ R3.out.no (note_zero _)).mono ?_; rintro e x ⟨rfl, hx⟩; replace BW := Go.Lib.hid (BW.out.trans (hx.mono BW.out.size)); clear hx tok T9; clear c0 c1 c2 c3 c4 c5 c6 c7 c8; obtain ⟨c0, c1, c2, c3, c4, c5, c6, c7, c8⟩ := (HKB.out _ BW.out).cells; have T10 := Go.Lib.hid True.intro) | (trace "FELL 9"; trace_state; fail_if_success skip))
        | (have tok := T10.out; go_at_call 8; first | (refine (CLV.out _ BW.out).mono ?_; rintro e x ⟨rfl, hx⟩; replace BW := Go.Lib.hid (BW.out.trans (hx.mono BW.out.size)); clear hx tok T10; clear c0 c1 c2 c3 c4 c5 c6 c7 c8; obtain ⟨c0, c1, c2, c3, c4, c5, c6, c7, c8⟩ := (HKB.out _ BW.out).cells; have T11 := Go.Lib.hid True.intro) | (trace "FELL 10"; trace_state; fail_if_success skip)))
      go_ret
      exact ⟨rfl, ST.out.2.trans (BW.out.mono ST.out.2.size)⟩
end Go.Proofs.YtanmepgplpijkaaGreatDoor.Att
