/- The program's read: an attribute off its item, unless it is to be skipped, or what is wrong of it. Plain mathematics: what bytes tell, attribute by attribute. It speaks of no function of the program. -/
import Derived.Test.YtanmepgplpijkaaDoorH39
namespace Go.Proofs.YtanmepgplpijkaaDoor.Att
open Go.RowKit Mem Segm Oct Seg
theorem fill_any (f k : Nat) (A : Option Addr) (c : Nat) (v : List Nat) (w : World) (B N : Nat) (a : At) (hA : BoxA w B N a) (hv : U8s w (.slice A v.length c) v) (h1 : 1 ≤ k) (h8 : k ≤ 8) (hl : longB k v.length = true) (hm : v.length ≤ 65535) :
    Calls Tryd.prog 74 #[.agg #[.int .i64 f, .int .i64 k, .slice A v.length c], .pointer (some ⟨B, 0, none⟩)] w (FillF B N a k v w) := by
  have hk : k = 1 ∨ k = 2 ∨ k = 3 ∨ k = 4 ∨ k = 5 ∨ k = 6 ∨ k = 7 ∨ k = 8 := by omega
  rcases hk with rfl | rfl | rfl | rfl | rfl | rfl | rfl | rfl
  · exact fill1 f A c v w B N a hA hv (by simpa [longB] using hl)
  · exact fill2 f A c v w B N a hA hv hm
  · exact fill3 f A c v w B N a hA hv (by simpa [longB] using hl)
  · exact fill4 f A c v w B N a hA hv (by simpa [longB] using hl)
  · exact fill5 f A c v w B N a hA hv (by simpa [longB] using hl)
  · exact fill6 f A c v w B N a hA hv (by simpa [longB] using hl)
  · exact fill7 f A c v w B N a hA hv (by simpa [longB] using hl)
  · exact fill8 f A c v w B N a hA hv (by simpa [longB] using hl)
theorem or_pow {h : Int} {k : Nat} (h0 : 0 ≤ h) (h5 : h < 512) (hk : k ≤ 8) (hb : h / 2 ^ k % 2 = 0) : bits .or .i64 h (2 ^ k) = h + 2 ^ k := by
  obtain ⟨x, rfl⟩ := Int.eq_ofNat_of_zero_le h0
  have h2 : 2 ^ k ≤ 256 := Nat.le_trans (Nat.pow_le_pow_right (by omega) hk) (by decide)
  have e2 : (BitVec.ofInt 64 (2 ^ k)).toNat = 2 ^ k := by
    rw [ofInt_nat]
    have h1 : (2 : Int) ^ k = ((2 ^ k : Nat) : Int) := by simp
    rw [h1]
    generalize 2 ^ k = y at h2
    omega
  have e1 : (BitVec.ofInt 64 (x : Int)).toNat = x := by rw [ofInt_nat]; omega
  have hb2 : x / 2 ^ k % 2 = 0 := by
    have hk2 : k = 0 ∨ k = 1 ∨ k = 2 ∨ k = 3 ∨ k = 4 ∨ k = 5 ∨ k = 6 ∨ k = 7 ∨ k = 8 := by omega
    rcases hk2 with rfl | rfl | rfl | rfl | rfl | rfl | rfl | rfl | rfl <;> simp only [Nat.reducePow, Int.reducePow] at hb ⊢ <;> omega
  show IntKind.i64.wrap ((BitVec.ofInt 64 (x : Int) ||| BitVec.ofInt 64 (2 ^ k)).toNat : Nat) = _
  rw [BitVec.toNat_or, e1, e2]
  have e3 : x ||| 2 ^ k = x + 2 ^ k := by
    apply Nat.eq_of_testBit_eq
    intro i
    rw [Nat.testBit_or, Nat.testBit_two_pow]
    have h9 : ∀ y : Nat, y < 512 → ∀ k : Nat, k < 9 → y / 2 ^ k % 2 = 0 → y ||| 2 ^ k = y + 2 ^ k := by decide +kernel
    rw [← h9 x (by omega) k (by omega) hb2, Nat.testBit_or, Nat.testBit_two_pow]
  rw [e3, wrap_low (by omega)]
  simp
theorem sub_known {f k : Nat} {v : List Nat} (hk : ¬ (k < 1 ∨ 8 < k)) : subOf f k v = if ownF f k ≠ flagN k then 4 else if longB k v.length = false then 5 else fillN k v := by
  unfold subOf fillN
  rw [if_neg hk]
  cases pathIs v <;> rfl
def putHas (a : At) (h : Int) : At := ⟨h, a.origin, a.path, a.hop, a.med, a.pref, a.aas, a.aid, a.comms⟩
theorem lay_known {a : At} {k : Nat} {v : List Nat} (hk : ¬ (k < 1 ∨ 8 < k)) : layA a k v = fillA (putHas a (a.has + 2 ^ k)) k v := by
  unfold layA
  rw [if_neg hk]; rfl
theorem BoxA.sethas {W : World} {B N : Nat} {a : At} (h : BoxA W B N a) (x : Int) (hx : (Lit.int .i64 x).wf = true) : BoxA (W.setCell ⟨B, 0, none⟩ (.int .i64 x)) B N (putHas a x) := by
  obtain ⟨h1, h2, Ap, np, cp, Ac, nc, cc, h3, h4, h5, h6⟩ := h
  exact ⟨⟨hx, h1.2⟩, ⟨h2.1, by simpa using h2.2⟩, Ap, np, cp, Ac, nc, cc, h3.set0 _, segs_off h4 (off_set _ h2.1) (by simp), u32_off h5 h6 (off_set _ h2.1) (by simp), h6⟩
def ReadF (B N : Nat) (a : At) (f k : Nat) (v : List Nat) (w : World) (e : Ending) (w' : World) : Prop :=
  e = .returned (.int .i64 (subOf f k v : Nat)) ∧ Only (fun q => q = B) w w' ∧ (subOf f k v = 0 → BoxA w' B N (layA a k v))
set_option maxRecDepth 100000 in
set_option maxHeartbeats 4000000 in
theorem read_any (f k : Nat) (A : Option Addr) (c : Nat) (v : List Nat) (w : World) (B N : Nat) (a : At) (hA : BoxA w B N a) (hv : U8s w (.slice A v.length c) v) (hS : Shp w) (hf : f < 256) (hm : v.length ≤ 65535) (h0 : 0 ≤ a.has) (h5 : a.has < 512) (hb : a.has / 2 ^ k % 2 = 0) :
    Calls Tryd.prog 49 #[.agg #[.int .i64 f, .int .i64 k, .slice A v.length c], .pointer (some ⟨B, 0, none⟩)] w (ReadF B N a f k v w) := by
  have q3 := Box3.new w 68 (.int .i64 f) (.int .i64 k) (.slice A v.length c)
  have hb1 : Below w.heap.size w (w.alloc (.cells #[.int .i64 f, .int .i64 k, .slice A v.length c] 68)) := (Below.refl _ _).alloc (Nat.le_refl _) _
  have Q0 := Go.Lib.hid (And.intro q3 hb1)
  have HA := Go.Lib.hid hA
  have HU := Go.Lib.hid hv
  have HS := Go.Lib.hid hS
  obtain ⟨d0, d1, d2⟩ := q3.cells
  clear q3 hb1
  unfold ReadF
  by_cases hk : k < 1 ∨ 8 < k
  · have CK := Go.Lib.hid (fun (W : World) => show Calls Tryd.prog 42 #[.int .i64 k] W (Tells (.bool false) W) from by
      have h := known_any (k : Int) W
      rw [show (decide ((1 : Int) ≤ (k : Int)) && decide ((k : Int) ≤ 8)) = false by
        rcases hk with h | h
        · rw [decide_eq_false (by omega)]; rfl
        · rw [decide_eq_false (show ¬ (k : Int) ≤ 8 by omega)]; simp] at h
      exact h)
    have HL := Go.Lib.hid (show layA a k v = a by unfold layA; rw [if_pos hk])
    have n128 := byte128 f hf
    by_cases hf2 : f < 128
    · rw [if_pos hf2] at n128
      have HE := Go.Lib.hid (show subOf f k v = 2 by unfold subOf; rw [if_pos hk, if_pos hf2])
      rw [HE.out]
      clear hk hf2 hf hA hv hS
      go_enter Tryd.func49, Tryd.ntmps49
      go_wp2_with (go_at_call 42; refine (CK.out _).mono ?_; rintro e x ⟨rfl, hx⟩; have Q1 := Go.Lib.hid (And.intro (Q0.out.1.keep hx) (Q0.out.2.trans (hx.mono Q0.out.2.size))); clear hx d0 d1 d2; obtain ⟨d0, d1, d2⟩ := Q1.out.1.cells)
      go_ret
      exact ⟨rfl, Only.of Q1.out.2, fun hz => by cases hz⟩
    · rw [if_neg hf2] at n128
      have HE := Go.Lib.hid (show subOf f k v = 0 by unfold subOf; rw [if_pos hk, if_neg hf2])
      rw [HE.out, HL.out]
      clear hk hf2 hf hA hv hS
      go_enter Tryd.func49, Tryd.ntmps49
      go_wp2_with (go_at_call 42; refine (CK.out _).mono ?_; rintro e x ⟨rfl, hx⟩; have Q1 := Go.Lib.hid (And.intro (Q0.out.1.keep hx) (Q0.out.2.trans (hx.mono Q0.out.2.size))); clear hx d0 d1 d2; obtain ⟨d0, d1, d2⟩ := Q1.out.1.cells)
      go_ret
      exact ⟨rfl, Only.of Q1.out.2, fun hz => HA.out.below Q1.out.2⟩
  · have CK := Go.Lib.hid (fun (W : World) => show Calls Tryd.prog 42 #[.int .i64 k] W (Tells (.bool true) W) from by
      have h := known_any (k : Int) W
      rw [decide_eq_true (show (1 : Int) ≤ (k : Int) by omega), decide_eq_true (show (k : Int) ≤ 8 by omega)] at h
      exact h)
    have CF := Go.Lib.hid (fun (W : World) (h : Below w.heap.size w W) => flagged_any f k (.slice A v.length c) W (HS.out.keep h) hf (by omega) (by omega))
    have CT := Go.Lib.hid (fun (W : World) (h : Below w.heap.size w W) => fits_any k v.length W (HS.out.keep h) (by omega) (by omega) (by omega))
    have CI := Go.Lib.hid (fun (W : World) (a : At) (h : BoxA W B N a) (hu : U8s W (.slice A v.length c) v) (hl : longB k v.length = true) => fill_any f k A c v W B N a h hu (by omega) (by omega) hl hm)
    rw [sub_known hk]
    by_cases hfl : ownF f k = flagN k
    · rw [if_neg (fun h => h hfl)]
      rw [decide_eq_true hfl] at CF
      cases hlg : longB k v.length with
      | false =>
        rw [hlg] at CT
        rw [if_pos rfl]
        clear hk hf hA hv hS hlg hfl
        go_enter Tryd.func49, Tryd.ntmps49
        go_wp2_with (first
          | (go_at_call 42; refine (CK.out _).mono ?_; rintro e x ⟨rfl, hx⟩; have Q1 := Go.Lib.hid (And.intro (Q0.out.1.keep hx) (Q0.out.2.trans (hx.mono Q0.out.2.size))); clear hx d0 d1 d2 Q0; obtain ⟨d0, d1, d2⟩ := Q1.out.1.cells)
          | (go_at_call 72; refine (CF.out _ Q1.out.2).mono ?_; rintro e x ⟨rfl, hx⟩; have Q2 := Go.Lib.hid (And.intro (Q1.out.1.keep hx) (Q1.out.2.trans (hx.mono Q1.out.2.size))); clear hx d0 d1 d2 Q1; obtain ⟨d0, d1, d2⟩ := Q2.out.1.cells)
          | (go_at_call 73; refine (CT.out _ Q2.out.2).mono ?_; rintro e x3 ⟨rfl, hx⟩; have Q3 := Go.Lib.hid (And.intro (Q2.out.1.keep hx) (Q2.out.2.trans (hx.mono Q2.out.2.size))); clear hx d0 d1 d2 Q2; obtain ⟨d0, d1, d2⟩ := Q3.out.1.cells))
        go_ret
        exact ⟨rfl, Only.of Q3.out.2, fun hz => by cases hz⟩
      | true =>
        rw [hlg] at CT
        rw [if_neg (by decide)]
        have HW := Go.Lib.hid (show (Lit.int .i64 (a.has + 2 ^ k)).wf = true by
          have h2 : 2 ^ k ≤ 256 := Nat.le_trans (Nat.pow_le_pow_right (by omega) (show k ≤ 8 by omega)) (by decide)
          have h1 : (2 : Int) ^ k = ((2 ^ k : Nat) : Int) := by simp
          rw [h1]
          generalize 2 ^ k = y at h2
          simp [Lit.wf, IntKind.min, IntKind.max, IntKind.signed, IntKind.bits]; omega)
        have HO := Go.Lib.hid (show bits .or .i64 a.has (wrap64 (2 ^ min k 64)) = a.has + 2 ^ k by
          rw [Nat.min_eq_left (show k ≤ 64 by omega)]
          have e : wrap64 ((2 : Int) ^ k) = 2 ^ k := by
            have h1 : (2 : Int) ^ k = ((2 ^ k : Nat) : Int) := by simp
            have h2 : 2 ^ k ≤ 256 := Nat.le_trans (Nat.pow_le_pow_right (by omega) (show k ≤ 8 by omega)) (by decide)
            rw [h1]
            generalize 2 ^ k = y at h2
            unfold wrap64; omega
          rw [e]
          exact or_pow h0 h5 (by omega) hb)
        have z0 : (0 : Int) ≤ (k : Int) := by omega
        have HLA := Go.Lib.hid (show layA a k v = fillA (putHas a (a.has + 2 ^ k)) k v from lay_known hk)
        rw [HLA.out]
        have HLG := Go.Lib.hid hlg
        have hB := hA.lt
        clear hk hf hA hv hS hlg hfl h0 h5 hb
        go_enter Tryd.func49, Tryd.ntmps49
        go_wp2_with (first
          | (go_at_call 42; refine (CK.out _).mono ?_; rintro e x ⟨rfl, hx⟩; have Q1 := Go.Lib.hid (And.intro (Q0.out.1.keep hx) (Q0.out.2.trans (hx.mono Q0.out.2.size))); clear hx d0 d1 d2 Q0; obtain ⟨d0, d1, d2⟩ := Q1.out.1.cells)
          | (go_at_call 72; refine (CF.out _ Q1.out.2).mono ?_; rintro e x ⟨rfl, hx⟩; have Q2 := Go.Lib.hid (And.intro (Q1.out.1.keep hx) (Q1.out.2.trans (hx.mono Q1.out.2.size))); clear hx d0 d1 d2 Q1; obtain ⟨d0, d1, d2⟩ := Q2.out.1.cells)
          | (go_at_call 73; refine (CT.out _ Q2.out.2).mono ?_; rintro e x3 ⟨rfl, hx⟩; have Q3 := Go.Lib.hid (And.intro (Q2.out.1.keep hx) (Q2.out.2.trans (hx.mono Q2.out.2.size))); clear hx d0 d1 d2 Q2; obtain ⟨d0, d1, d2⟩ := Q3.out.1.cells))
        have QD := Go.Lib.hid (And.intro (Q3.out.1.keep (Below.refl _ _).drew) (Q3.out.2.trans ((Below.refl _ x3).drew.mono Q3.out.2.size)))
        have A3 := Go.Lib.hid (HA.out.below QD.out.2)
        clear d0 d1 d2
        obtain ⟨d0, d1, d2⟩ := QD.out.1.cells
        obtain ⟨-, -, Ap, np, cp, Ac, nc, cc, b9, -, -, -⟩ := A3.out
        obtain ⟨-, -, Ap0, np0, cp0, Ac0, nc0, cc0, b90, -, -, -⟩ := HA.out
        have HA9 := Go.Lib.hid b90
        clear b90
        obtain ⟨c0, -⟩ := b9.cells
        have fB := b9.free
        clear b9
        go_region
        rw [HO.out]
        clear d0 d1 d2 c0 fB
        have A4 := Go.Lib.hid (((HA.out.below Q3.out.2).sethas (a.has + 2 ^ k) HW.out).below (Below.refl _ _).drew)
        have D4 := Go.Lib.hid ((Q3.out.1.far (i := 0) (show w.heap.size ≠ B by omega) (.int .i64 (a.has + 2 ^ k))).keep (Below.refl _ _).drew)
        have O4 := Go.Lib.hid (((Only.of (F := fun q => q = B) Q3.out.2).set (i := 0) rfl (.int .i64 (a.has + 2 ^ k))).drew)
        obtain ⟨W4, hW4⟩ : ∃ W4, W4 = (x3.setCell ⟨B, 0, none⟩ (.int .i64 (a.has + 2 ^ k))).drew := ⟨_, rfl⟩
        rw [← hW4] at A4 D4 O4 ⊢
        clear hW4
        have CIW := Go.Lib.hid (CI.out W4 _ A4.out (u8_only HU.out (HA9.out.no8 n9) O4.out) HLG.out)
        obtain ⟨d0, d1, d2⟩ := D4.out.cells
        go_wp2_with (go_at_call 74; first | (refine (CIW.out).mono ?_; rintro e x ⟨rfl, ho5, hg5⟩; have R5 := Go.Lib.hid (And.intro (O4.out.trans ho5) hg5); clear ho5 hg5) | (trace "FELL F"; trace_state; fail_if_success skip))
        go_ret
        exact ⟨rfl, R5.out.1, R5.out.2⟩
    · rw [if_pos hfl]
      rw [decide_eq_false hfl] at CF
      clear hk hf hA hv hS hfl
      go_enter Tryd.func49, Tryd.ntmps49
      go_wp2_with (first
        | (go_at_call 42; refine (CK.out _).mono ?_; rintro e x ⟨rfl, hx⟩; have Q1 := Go.Lib.hid (And.intro (Q0.out.1.keep hx) (Q0.out.2.trans (hx.mono Q0.out.2.size))); clear hx d0 d1 d2 Q0; obtain ⟨d0, d1, d2⟩ := Q1.out.1.cells)
        | (go_at_call 72; refine (CF.out _ Q1.out.2).mono ?_; rintro e x ⟨rfl, hx⟩; have Q2 := Go.Lib.hid (And.intro (Q1.out.1.keep hx) (Q1.out.2.trans (hx.mono Q1.out.2.size))); clear hx d0 d1 d2 Q1; obtain ⟨d0, d1, d2⟩ := Q2.out.1.cells))
      go_ret
      exact ⟨rfl, Only.of Q2.out.2, fun hz => by cases hz⟩
end Go.Proofs.YtanmepgplpijkaaDoor.Att
namespace Go.Proofs.YtanmepgplpijkaaDoor.Att
open Segm Rise Oct
theorem item_facts {l : List Nat} {x : Item} (hs : Small l) (h : itemOf l = some x) : x.f < 256 ∧ x.k < 256 ∧ x.v.length ≤ 65535 ∧ (255 < x.v.length → x.f / 16 % 2 = 1) ∧ Small x.v ∧ Small x.r ∧ x.r.length + 3 ≤ l.length ∧ x.r.length + x.v.length ≤ l.length := by
  match l, hs, h with
  | [], _, h => simp [itemOf] at h
  | [_], _, h => simp [itemOf] at h
  | f :: k :: r, hs, h =>
    have hf := hs f (by simp)
    have hk := hs k (by simp)
    have hr : Small r := fun n hn => hs n (by simp [hn])
    unfold itemOf at h
    dsimp only at h
    by_cases hl : f / 16 % 2 = 1
    · rw [if_pos hl] at h
      match r, hr, h with
      | [], _, h => simp at h
      | [_], _, h => simp at h
      | n1 :: n0 :: r2, hr, h =>
        have h1 := hr n1 (by simp)
        have h0 := hr n0 (by simp)
        have h2 : Small r2 := fun n hn => hr n (by simp [hn])
        dsimp only at h
        split at h
        · injection h with h
          subst h
          dsimp only
          refine ⟨hf, hk, ?_, fun _ => hl, h2.take _, h2.drop _, ?_, ?_⟩ <;> simp only [List.length_take, List.length_drop, List.length_cons] <;> omega
        · cases h
    · rw [if_neg hl] at h
      match r, hr, h with
      | [], _, h => simp at h
      | n0 :: r2, hr, h =>
        have h0 := hr n0 (by simp)
        have h2 : Small r2 := fun n hn => hr n (by simp [hn])
        dsimp only at h
        split at h
        · injection h with h
          subst h
          dsimp only
          refine ⟨hf, hk, ?_, fun hh => ?_, h2.take _, h2.drop _, ?_, ?_⟩
          · simp only [List.length_take]; omega
          · simp only [List.length_take] at hh; omega
          · simp only [List.length_drop, List.length_cons]; omega
          · simp only [List.length_take, List.length_drop, List.length_cons]; omega
        · cases h
theorem decA_fuel : ∀ (n m : Nat) (seen : List Nat) (a : At) (l : List Nat), Small l → l.length ≤ n → l.length ≤ m → decA n seen a l = decA m seen a l
  | 0, 0, _, _, _, _, _, _ => rfl
  | 0, m + 1, seen, a, l, _, h, _ => by
    obtain rfl : l = [] := List.eq_nil_of_length_eq_zero (by omega)
    rfl
  | n + 1, 0, seen, a, l, _, _, h => by
    obtain rfl : l = [] := List.eq_nil_of_length_eq_zero (by omega)
    rfl
  | n + 1, m + 1, seen, a, l, hs, hn, hm => by
    unfold decA
    cases hi : itemOf l with
    | none => rfl
    | some x =>
      dsimp only
      obtain ⟨-, -, -, -, -, h6, h7, -⟩ := item_facts hs hi
      rw [decA_fuel n m (x.k :: seen) (layA a x.k x.v) x.r h6 (by omega) (by omega)]
def decF (seen : List Nat) (a : At) (l : List Nat) : No ⊕ At := decA l.length seen a l
theorem decF_none {seen : List Nat} {a : At} {l : List Nat} (hne : l ≠ []) (h : itemOf l = none) : decF seen a l = .inl ⟨3, 1, []⟩ := by
  unfold decF
  obtain ⟨n, hn⟩ : ∃ n, l.length = n + 1 := ⟨l.length - 1, by have := List.length_pos_iff.2 hne; omega⟩
  rw [hn]
  unfold decA
  rw [if_neg hne, h]
theorem decF_some {seen : List Nat} {a : At} {l : List Nat} {x : Item} (hs : Small l) (h : itemOf l = some x) :
    decF seen a l = if x.k ∈ seen then .inl ⟨3, 1, []⟩ else if subOf x.f x.k x.v = 0 then decF (x.k :: seen) (layA a x.k x.v) x.r else .inl (badN (subOf x.f x.k x.v) x) := by
  have hne : l ≠ [] := fun e => by subst e; cases h
  obtain ⟨-, -, -, -, -, h6, h7, -⟩ := item_facts hs h
  obtain ⟨n, hn⟩ : ∃ n, l.length = n + 1 := ⟨l.length - 1, by omega⟩
  have e := decA_fuel n x.r.length (x.k :: seen) (layA a x.k x.v) x.r h6 (by omega) (Nat.le_refl _)
  have hh : decA (n + 1) seen a l = if l = [] then .inr (normA a) else match itemOf l with
    | none => .inl ⟨3, 1, []⟩
    | some x => if x.k ∈ seen then .inl ⟨3, 1, []⟩ else if subOf x.f x.k x.v = 0 then decA n (x.k :: seen) (layA a x.k x.v) x.r else .inl (badN (subOf x.f x.k x.v) x) := rfl
  show decA l.length seen a l = _
  rw [hn, hh, if_neg hne, h]
  dsimp only
  rw [e]
  rfl
structure Fine (seen : List Nat) (a : At) : Prop where
  h0 : 0 ≤ a.has
  h5 : a.has < 512
  free : ∀ k : Nat, k ≤ 8 → k ∉ seen → a.has / 2 ^ k % 2 = 0
  zero : a.has % 2 = 0
  bk : bulk a.path ≤ 40000
  fit : FitS 4999 a.path
  cm : a.comms.length < 5000
theorem fine_zero : Fine [] zeroA := ⟨by decide, by decide, fun k _ _ => by simp [zeroA], by decide, by decide, (fun s hs => by cases hs), by decide⟩
theorem div_add_pow {h : Int} {j k : Nat} (hj : j ≤ 8) (hk : k ≤ 8) (hb : h / 2 ^ k % 2 = 0) (hne : j ≠ k) : (h + 2 ^ k) / 2 ^ j % 2 = h / 2 ^ j % 2 := by
  have hj2 : j = 0 ∨ j = 1 ∨ j = 2 ∨ j = 3 ∨ j = 4 ∨ j = 5 ∨ j = 6 ∨ j = 7 ∨ j = 8 := by omega
  have hk2 : k = 0 ∨ k = 1 ∨ k = 2 ∨ k = 3 ∨ k = 4 ∨ k = 5 ∨ k = 6 ∨ k = 7 ∨ k = 8 := by omega
  rcases hk2 with rfl | rfl | rfl | rfl | rfl | rfl | rfl | rfl | rfl <;> rcases hj2 with rfl | rfl | rfl | rfl | rfl | rfl | rfl | rfl | rfl <;> simp only [Int.reducePow] at hb ⊢ <;> first | omega | exact absurd rfl hne
theorem add_pow_lt {h : Int} {k : Nat} (h0 : 0 ≤ h) (h5 : h < 512) (hk : k ≤ 8) (hb : h / 2 ^ k % 2 = 0) : h + 2 ^ k < 512 := by
  have hk2 : k = 0 ∨ k = 1 ∨ k = 2 ∨ k = 3 ∨ k = 4 ∨ k = 5 ∨ k = 6 ∨ k = 7 ∨ k = 8 := by omega
  rcases hk2 with rfl | rfl | rfl | rfl | rfl | rfl | rfl | rfl | rfl <;> simp only [Int.reducePow] at hb ⊢ <;> omega
theorem Fine.lay {seen : List Nat} {a : At} (h : Fine seen a) {f k : Nat} {v : List Nat} (hs : Small v) (hl : v.length ≤ 65535) (hk : k ∉ seen) (hsub : subOf f k v = 0) : Fine (k :: seen) (layA a k v) := by
  by_cases hu : k < 1 ∨ 8 < k
  · rw [show layA a k v = a by unfold layA; rw [if_pos hu]]
    exact ⟨h.h0, h.h5, fun j hj hn => h.free j hj (fun hm => hn (by simp [hm])), h.zero, h.bk, h.fit, h.cm⟩
  · have hb := h.free k (by omega) hk
    have hp : (0 : Int) < 2 ^ k := by
      have h1 : (2 : Int) ^ k = ((2 ^ k : Nat) : Int) := by simp
      have := Nat.two_pow_pos k
      omega
    have e : (layA a k v).has = a.has + 2 ^ k := by unfold layA; rw [if_neg hu]
    have ep : (layA a k v).path = if k = 2 then (pathIs v).getD [] else a.path := by unfold layA; rw [if_neg hu]
    have ec : (layA a k v).comms = if k = 8 then quads v else a.comms := by unfold layA; rw [if_neg hu]
    have hq : ∀ p, pathIs v = some p → bulk p ≤ 40000 ∧ FitS 4999 p := fun p hp => by
      obtain ⟨h1, h2⟩ := pathIs_len hs hp
      exact ⟨by rw [bulk_is]; omega, fun s hs => Nat.le_trans (h2 s hs) (by decide)⟩
    have hq2 : bulk ((pathIs v).getD []) ≤ 40000 ∧ FitS 4999 ((pathIs v).getD []) := by
      cases hh : pathIs v with
      | none => exact ⟨Nat.zero_le _, fun s hs => by cases hs⟩
      | some p => exact hq p hh
    refine ⟨by rw [e]; have := h.h0; omega, by rw [e]; exact add_pow_lt h.h0 h.h5 (by omega) hb, fun j hj hn => ?_, ?_, ?_, ?_, ?_⟩
    · rw [e]
      have hne : j ≠ k := fun e2 => hn (by simp [e2])
      rw [div_add_pow hj (by omega) hb hne]
      exact h.free j hj (fun hm => hn (by simp [hm]))
    · rw [e]
      have h1 := div_add_pow (j := 0) (by omega) (show k ≤ 8 by omega) hb (by omega)
      simp only [Int.pow_zero, Int.ediv_one] at h1
      rw [h1]
      exact h.zero
    · rw [ep]; split; exact hq2.1; exact h.bk
    · rw [ep]; split; exact hq2.2; exact h.fit
    · rw [ec]
      split
      · rename_i h8
        subst h8
        unfold subOf at hsub
        rw [if_neg hu] at hsub
        split at hsub
        · cases hsub
        · split at hsub
          · cases hsub
          · rename_i h9
            have h9' : longB 8 v.length = true := by simpa using h9
            have h10 : v.length % 4 = 0 ∧ v.length ≤ 1020 := by simpa [longB] using h9'
            unfold quads
            rw [quadsN_len]
            omega
      · exact h.cm
end Go.Proofs.YtanmepgplpijkaaDoor.Att
