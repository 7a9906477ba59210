/- What cut takes off a reader. Numbers of bytes: a reader's number, U8, U16, U32, Take, Part, Rest; the reference's Num. What is read by a reader's own calls, as plain data; bytes that do not lie in a box. -/
import Derived.Test.YtlhdjdnflpilbaaGreatDoorH07
import Derived.Test.YtlhdjdnflpilbaaGreatDoorH11
import Derived.Laws.BitsAllLaws
import Derived.Test.YtlhdjdnflpilbaaGreatDoorH03
namespace Go.Proofs.YtlhdjdnflpilbaaGreatDoor.Oct
open Go.RowKit Mem Ahead
def CutF (base n : Nat) (v : Value) (F : Nat → Prop) (l : List Nat) (bad : Bool) (k : Int) (w : World) (e : Ending) (w' : World) : Prop :=
 ∃ A c, e = .returned (.tuple #[.slice A (got l bad k).length c, .bool (!fails l bad k)]) ∧ U8s w' (.slice A (got l bad k).length c) (got l bad k) ∧ Lies n F (.slice A (got l bad k).length c) ∧ R w' base n v (rest l bad k) (fails l bad k) F ∧ Only F w w'
theorem fails_of {l : List Nat} {bad : Bool} {k : Int} (h : fails l bad k = true) : got l bad k = [] ∧ rest l bad k = [] := by simp [got, rest, h]
theorem cut_fail {base n : Nat} {v : Value} {F : Nat → Prop} {l : List Nat} {bad : Bool} {k : Int} {w w' : World} (h : fails l bad k = true) (hR : R w' base n v [] true F) (ho : Only F w w') :
  CutF base n v F l bad k w (.returned (.tuple #[.slice none 0 0, .bool false])) w' := by
 obtain ⟨h1, h2⟩ := fails_of h
 unfold CutF
 rw [h1, h2, h]
 exact ⟨none, 0, rfl, U8s.nil w', (fun g hg => by cases hg), hR, ho⟩
theorem cut_done {base n b c : Nat} {l : List Nat} {A : Option Addr} {k : Int} {w w1 W : World} (h2 : base ≤ b) (h3 : b < n) (h4 : n ≤ w.heap.size) (hb : Below w.heap.size w w1)
  (h5 : w1.heap[b]? = some (.cells #[.slice A l.length c, .bool false] 103)) (hf : fails l false k = true)
  (hW : W = (w1.setCell ⟨b, 0, none⟩ (.slice none 0 0)).setCell ⟨b, 1, none⟩ (.bool true)) :
  CutF base n (.pointer (some ⟨b, 0, none⟩)) (fun k => k = b) l false k w (.returned (.tuple #[.slice none 0 0, .bool false])) W := by
 subst hW
 have ho : Only (fun k => k = b) w ((w1.setCell ⟨b, 0, none⟩ (.slice none 0 0)).setCell ⟨b, 1, none⟩ (.bool true)) := Only.set (F := fun k => k = b) (Only.set (F := fun k => k = b) (Only.of hb) rfl _) rfl _
 exact cut_fail hf (.inr ⟨b, .slice none 0 0, rfl, h2, h3, Nat.le_trans h4 ho.size, set1 _ (set0 _ h5), U8s.nil _, (fun g hg => by cases hg), fun _ => rfl, rfl⟩) ho
theorem cut_good {base n b c j : Nat} {l : List Nat} {A : Option Addr} {w w1 W : World} {X : Value} (h2 : base ≤ b) (h3 : b < n) (h4 : n ≤ w.heap.size) (hb : Below w.heap.size w w1)
  (h5 : w1.heap[b]? = some (.cells #[.slice A l.length c, .bool false] 103)) (h6 : U8s w (.slice A l.length c) l) (h7 : Lies n (fun k => k = b) (.slice A l.length c)) (hf : fails l false (j : Int) = false)
  (hj : j ≤ l.length) (hX : X = .slice (if c = j then A else A.map (fun x => x.add j)) (l.length - j) (c - j)) (hW : W = (w1.setCell ⟨b, 0, none⟩ X).drew) :
  CutF base n (.pointer (some ⟨b, 0, none⟩)) (fun k => k = b) l false (j : Int) w (.returned (.tuple #[.slice A j j, .bool true])) W := by
 subst hW
 have ho : Only (fun k => k = b) w (w1.setCell ⟨b, 0, none⟩ X).drew := (Only.set (F := fun k => k = b) (Only.of hb) rfl _).drew
 have hg : got l false (j : Int) = l.take j := by simp [got, hf]
 have hr : rest l false (j : Int) = l.drop j := by simp [rest, hf]
 have hlen : (l.take j).length = j := by rw [List.length_take]; omega
 obtain ⟨_, _, _, hlc, hc⟩ := h6.form
 have hm : j ≤ maxLen := by
  obtain ⟨⟨_, _, _, e, h8, h9, _⟩, _⟩ := h6
  injection e with e1 e2 e3
  omega
 have hin : ∀ g, (Value.slice A l.length c).ownBlock = some g → (w1.setCell ⟨b, 0, none⟩ X).drew.heap[g]? = w.heap[g]? := fun g hg => ho.block g (by have := (h7 g hg).1; omega) (h7 g hg).2
 unfold CutF
 rw [hg, hr, hf, hlen]
 refine ⟨A, j, rfl, (h6.prefix_ hj (Nat.le_refl _) hm).part (fun g hg => hin g (own_at hg)) ho.size, fun g hg => h7 g (own_at hg), .inr ⟨b, X, rfl, h2, h3, Nat.le_trans h4 ho.size, set0 _ h5, ?_, ?_, (fun h => by cases h), rfl⟩, ho⟩
 ·subst hX
  exact (h6.cut hj).part (fun g hg => hin g (cut_own hg)) ho.size
 ·subst hX
  exact fun g hg => h7 g (cut_own hg)
set_option maxRecDepth 100000 in
set_option maxHeartbeats 2000000 in
theorem cut_any (v : Value) (base n : Nat) (l : List Nat) (bad : Bool) (F : Nat → Prop) (k : Int) (hk : (Lit.int .i64 k).wf = true) (w : World) (hR : R w base n v l bad F) :
  Calls Tryz.prog 84 #[v, .int .i64 k] w (CutF base n v F l bad k w) := by
 have CB := Go.Lib.hid (fun (W : World) (h : R W base n v l bad F) => bad_any v base n l bad F W h)
 have HR := Go.Lib.hid hR
 rcases hR with ⟨rfl, rfl, rfl, hF⟩ | ⟨b, s, rfl, h2, h3, h4, h5, h6, h7, h8, hF⟩
 ·go_enter Tryz.func84, Tryz.ntmps84
  go_wp2
  go_step3
  go_wp2_with (go_at_call 44; have h := HR.out; refine (CB.out _ h).mono ?_; rintro e w1 ⟨rfl, hb1⟩; have B1 := Go.Lib.hid hb1; clear hb1 h)
  rw [Exit.noGoto_ret]
  go_ret2
  exact cut_fail rfl (HR.out.below B1.out) (Only.of B1.out)
 ·subst hF
  cases bad with
  | true =>
   obtain rfl := h8 rfl
   go_enter Tryz.func84, Tryz.ntmps84
   go_wp2
   go_step3
   go_wp2_with (go_at_call 44; have h := HR.out; refine (CB.out _ h).mono ?_; rintro e w1 ⟨rfl, hb1⟩; have B1 := Go.Lib.hid hb1; clear hb1 h)
   rw [Exit.noGoto_ret]
   go_ret2
   exact cut_fail rfl (HR.out.below B1.out) (Only.of B1.out)
  | false =>
   obtain ⟨c0, c1⟩ := cell0 h5
   obtain ⟨A, c, rfl, hlc, hc⟩ := h6.form
   have H5 := Go.Lib.hid h5
   have H6 := Go.Lib.hid h6
   have H7 := Go.Lib.hid h7
   have hlt : b < w.heap.size := by omega
   by_cases hf : fails l false k = true
   ·have HF := Go.Lib.hid hf
    simp only [fails, Bool.false_or, Bool.or_eq_true, decide_eq_true_eq] at hf
    clear h5 h6 h7 h8
    rcases hf with hf | hf
    ·go_enter Tryz.func84, Tryz.ntmps84
     go_wp2
     refine wp_scope_ahead 0 (by rfl) ?_
     go_wp2_with (go_at_call 44; have h := HR.out; refine (CB.out _ h).mono ?_; rintro e w1 ⟨rfl, hb1⟩; have B1 := Go.Lib.hid hb1; have g5 := (hb1.block b hlt).trans H5.out; clear c0 c1; obtain ⟨c0, c1⟩ := cell0 g5; obtain ⟨f0, f1⟩ := free0 g5; have G5 := Go.Lib.hid g5; clear g5; clear hb1 h)
     go_step3
     refine ⟨rfl, ?_⟩
     go_wp2
     rw [Exit.noGoto_ret]
     go_ret2
     exact cut_done h2 h3 h4 B1.out G5.out HF.out rfl
    ·go_enter Tryz.func84, Tryz.ntmps84
     have hf0 : decide (k < 0) = false := by simp; omega
     go_wp2
     refine wp_scope_ahead 0 (by rfl) ?_
     go_wp2_with (go_at_call 44; have h := HR.out; refine (CB.out _ h).mono ?_; rintro e w1 ⟨rfl, hb1⟩; have B1 := Go.Lib.hid hb1; have g5 := (hb1.block b hlt).trans H5.out; clear c0 c1; obtain ⟨c0, c1⟩ := cell0 g5; obtain ⟨f0, f1⟩ := free0 g5; have G5 := Go.Lib.hid g5; clear g5; clear hb1 h)
     go_step3
     refine ⟨rfl, ?_⟩
     go_wp2
     rw [Exit.noGoto_ret]
     go_ret2
     exact cut_done h2 h3 h4 B1.out G5.out HF.out rfl
   ·have hf1 : fails l false k = false := by simpa using hf
    have hf2 := hf1
    simp only [fails, Bool.false_or, Bool.or_eq_false_iff, decide_eq_false_iff_not] at hf2
    obtain ⟨j, rfl⟩ := Int.eq_ofNat_of_zero_le (show 0 ≤ k by omega)
    have hj : j ≤ l.length := by have := hf2.2; omega
    have z0 : (0 : Int) ≤ (j : Int) := by omega
    have z1 : (j : Int) ≤ (l.length : Int) := by omega
    have z2 : (l.length : Int) ≤ (c : Int) := by omega
    have z3 : (j : Int) ≤ (c : Int) := by omega
    have z4 : ¬ ((j : Int) < 0) := by omega
    have z5 : ¬ ((l.length : Int) < (j : Int)) := by omega
    clear hf hf2
    have H1 := Go.Lib.hid hf1
    clear hf1 h5 h6 h7 h8
    cases A with
    | none =>
     obtain rfl : j = 0 := by
      obtain ⟨⟨_, _, _, e, _, _, hr⟩, _⟩ := H6.out
      injection e with e1 e2 e3
      subst e1
      rcases Nat.eq_zero_or_pos l.length with h | h
      ·omega
      ·obtain ⟨_, _, h0, _⟩ := hr h
       cases h0
     go_enter Tryz.func84, Tryz.ntmps84
     go_wp2
     go_step3
     go_wp2_with (go_at_call 44; have h := HR.out; refine (CB.out _ h).mono ?_; rintro e w1 ⟨rfl, hb1⟩; have B1 := Go.Lib.hid hb1; have g5 := (hb1.block b hlt).trans H5.out; clear c0 c1; obtain ⟨c0, c1⟩ := cell0 g5; obtain ⟨f0, f1⟩ := free0 g5; have G5 := Go.Lib.hid g5; clear g5; clear hb1 h)
     go_region
     all_goals go_wp2
     all_goals (first | rw [Exit.noGoto_ret] | skip)
     all_goals go_ret2
     all_goals exact cut_good h2 h3 h4 B1.out G5.out H6.out H7.out H1.out hj (by simp [*]) rfl
    | some ad =>
     go_enter Tryz.func84, Tryz.ntmps84
     go_wp2
     go_step3
     go_wp2_with (go_at_call 44; have h := HR.out; refine (CB.out _ h).mono ?_; rintro e w1 ⟨rfl, hb1⟩; have B1 := Go.Lib.hid hb1; have g5 := (hb1.block b hlt).trans H5.out; clear c0 c1; obtain ⟨c0, c1⟩ := cell0 g5; obtain ⟨f0, f1⟩ := free0 g5; have G5 := Go.Lib.hid g5; clear g5; clear hb1 h)
     go_region
     all_goals go_wp2
     all_goals (first | rw [Exit.noGoto_ret] | skip)
     all_goals go_ret2
     all_goals exact cut_good h2 h3 h4 B1.out G5.out H6.out H7.out H1.out hj (by simp [*]) rfl
end Go.Proofs.YtlhdjdnflpilbaaGreatDoor.Oct
namespace Go.Proofs.YtlhdjdnflpilbaaGreatDoor.Oct
open Go.RowKit Mem Ahead
def val (l : List Nat) : Nat := l.foldl (fun n b => n * 256 + b) 0
theorem val_snoc (l : List Nat) (b : Nat) : val (l ++ [b]) = val l * 256 + b := by simp [val]
theorem val_take {l : List Nat} {k b : Nat} (h : l[k]? = some b) : val (l.take (k + 1)) = val (l.take k) * 256 + b := by
 rw [List.take_add_one, h]
 exact val_snoc _ _
theorem val_lt : ∀ (k : Nat) {l : List Nat}, Small l → val (l.take k) < 256 ^ k
 | 0, l, _ => by simp [val]
 | k + 1, l, h => by
  have ih := val_lt k h
  rw [Nat.pow_succ]
  cases hk : l[k]? with
  | none =>
   have hl : l.length ≤ k := List.getElem?_eq_none_iff.1 hk
   rw [List.take_of_length_le (by omega)]
   rw [List.take_of_length_le hl] at ih
   omega
  | some b =>
   have hb := h b (List.mem_of_getElem? hk)
   rw [val_take hk]
   omega
theorem pow_le {k : Nat} (h : k ≤ 3) : 256 ^ k ≤ 16777216 := by
 match k, h with
 | 0, _ => decide
 | 1, _ => decide
 | 2, _ => decide
 | 3, _ => decide
theorem or_byte (a b : Nat) (ha : a < 16777216) (hb : b < 256) : bits .or .u32 ((a : Int) * 256) (b : Int) = ((a * 256 + b : Nat) : Int) := by
 have h := u32_or_nat (a * 256) b (by omega) (by omega)
 rw [show ((a * 256 : Nat) : Int) = (a : Int) * 256 by omega] at h
 rw [h]
 have e := Nat.shiftLeft_add_eq_or_of_lt (i := 8) (b := b) (by omega) a
 rw [Nat.shiftLeft_eq, show (2 : Nat) ^ 8 = 256 from rfl] at e
 rw [e]
theorem got_small {l : List Nat} {bad : Bool} {k : Int} (h : Small l) : Small (got l bad k) := by
 unfold got
 split
 ·exact small_nil
 ·exact h.take _
theorem got_len {l : List Nat} {bad : Bool} {k : Nat} : (got l bad (k : Int)).length ≤ k := by
 unfold got
 split
 ·simp
 ·rw [List.length_take]; simp; omega
def NumF (base n : Nat) (v : Value) (F : Nat → Prop) (l : List Nat) (bad : Bool) (k : Int) (x : Value) (w : World) (e : Ending) (w' : World) : Prop :=
 e = .returned x ∧ R w' base n v (rest l bad k) (fails l bad k) F ∧ Only F w w'
set_option maxRecDepth 100000 in
set_option maxHeartbeats 2000000 in
theorem number_any (v : Value) (base n : Nat) (l : List Nat) (bad : Bool) (F : Nat → Prop) (k : Nat) (hk : k ≤ 4) (w : World) (hR : R w base n v l bad F) :
  Calls Tryz.prog 85 #[v, .int .i64 k] w (NumF base n v F l bad k (.int .u32 (val (got l bad k))) w) := by
 have CC := Go.Lib.hid (cut_any v base n l bad F k (by simp [Lit.wf, IntKind.min, IntKind.max, IntKind.signed, IntKind.bits]; omega) w hR)
 have hgl : (got l bad (k : Int)).length ≤ 4 := Nat.le_trans got_len hk
 obtain ⟨G, hG⟩ : ∃ G, G = got l bad (k : Int) := ⟨_, rfl⟩
 clear hR
 have CG : Calls Tryz.prog 84 #[v, .int .i64 k] w (fun e w' => ∃ A c, e = .returned (.tuple #[.slice A G.length c, .bool (!fails l bad k)]) ∧ U8s w' (.slice A G.length c) G ∧ R w' base n v (rest l bad k) (fails l bad k) F ∧ Only F w w') := by
  rw [hG]
  exact CC.out.mono fun e w' ⟨A, c, h1, h2, _, h3, h4⟩ => ⟨A, c, h1, h2, h3, h4⟩
 have CH := Go.Lib.hid CG
 rw [← hG] at hgl ⊢
 clear hG CG CC
 go_enter Tryz.func85, Tryz.ntmps85
 go_wp2_with (go_at_call 84; refine CH.out.mono ?_; rintro e w1 ⟨A, c, rfl, hU, hR1, ho⟩; have HU := Go.Lib.hid hU; have HR1 := Go.Lib.hid hR1; have HO := Go.Lib.hid ho; clear hU hR1 ho)
 go_loopw [7, 9, 18] (fun v7 _ v18 wx => ∃ j : Nat, j ≤ G.length ∧ v18 = .int .i64 j ∧ v7 = .int .u32 (val (G.take j)) ∧ wx = w1) (fun _ _ v18 _ => G.length - (intOf v18).toNat)
 case atStart => exact ⟨0, Nat.zero_le _, rfl, rfl, rfl⟩
 case round =>
  obtain ⟨j, hj, rfl, rfl, rfl⟩ := hrel
  by_cases hlt : j < G.length
  ·obtain ⟨b, off, x, rfl, hbl, hx, hx2, hc⟩ := (HU.out).at_ hlt
   have z0 : (0 : Int) ≤ (j : Int) := by omega
   have z1 : (j : Int) < (G.length : Int) := by omega
   have hv := val_lt j HU.out.2
   have hv2 := Nat.lt_of_lt_of_le hv (pow_le (show j ≤ 3 by omega))
   have HV := Go.Lib.hid (val_take hx)
   clear hv hx
   generalize val (G.take j) = V at hv2 HV ⊢
   have ho := or_byte V x hv2 hx2
   go_wp2
   go_roundw
   case rel => exact ⟨j + 1, hlt, rfl, by rw [HV.out]; simp, trivial⟩
   case measure => simp [intOf]; omega
  ·obtain rfl : j = G.length := by omega
   go_wp2
   go_ret
   rw [List.take_length]
   exact ⟨rfl, HR1.out, HO.out⟩
theorem valg_lt {l : List Nat} {bad : Bool} {k : Nat} (h : Small l) (hk : k ≤ 4) : val (got l bad (k : Int)) < 4294967296 := by
 have h1 := val_lt (got l bad (k : Int)).length (got_small (bad := bad) (k := (k : Int)) h)
 rw [List.take_length] at h1
 exact Nat.lt_of_lt_of_le h1 (Nat.le_trans (Nat.pow_le_pow_right (by omega) (Nat.le_trans got_len hk)) (by decide))
theorem u8_any (v : Value) (base n : Nat) (l : List Nat) (bad : Bool) (F : Nat → Prop) (w : World) (hs : Small l) (hR : R w base n v l bad F) :
  Calls Tryz.prog 82 #[v] w (NumF base n v F l bad 1 (.int .i64 (val (got l bad 1))) w) := by
 have CC := Go.Lib.hid (show Calls Tryz.prog 85 #[v, .int .i64 1] w (NumF base n v F l bad 1 (.int .u32 (val (got l bad 1))) w) from number_any v base n l bad F 1 (by omega) w hR)
 have hv := valg_lt (bad := bad) (k := 1) hs (by omega)
 rw [show ((1 : Nat) : Int) = 1 from rfl] at hv
 clear hR
 generalize val (got l bad 1) = V at CC hv ⊢
 go_enter Tryz.func82, Tryz.ntmps82
 go_wp2_with (go_at_call 85; refine CC.out.mono ?_; rintro e w1 ⟨rfl, hR1, ho⟩; have H1 := Go.Lib.hid (And.intro hR1 ho); clear hR1 ho)
 go_ret
 exact ⟨rfl, H1.out⟩
theorem u16_any (v : Value) (base n : Nat) (l : List Nat) (bad : Bool) (F : Nat → Prop) (w : World) (hs : Small l) (hR : R w base n v l bad F) :
  Calls Tryz.prog 43 #[v] w (NumF base n v F l bad 2 (.int .i64 (val (got l bad 2))) w) := by
 have CC := Go.Lib.hid (show Calls Tryz.prog 85 #[v, .int .i64 2] w (NumF base n v F l bad 2 (.int .u32 (val (got l bad 2))) w) from number_any v base n l bad F 2 (by omega) w hR)
 have hv := valg_lt (bad := bad) (k := 2) hs (by omega)
 rw [show ((2 : Nat) : Int) = 2 from rfl] at hv
 clear hR
 generalize val (got l bad 2) = V at CC hv ⊢
 go_enter Tryz.func43, Tryz.ntmps43
 go_wp2_with (go_at_call 85; refine CC.out.mono ?_; rintro e w1 ⟨rfl, hR1, ho⟩; have H1 := Go.Lib.hid (And.intro hR1 ho); clear hR1 ho)
 go_ret
 exact ⟨rfl, H1.out⟩
theorem u32_any (v : Value) (base n : Nat) (l : List Nat) (bad : Bool) (F : Nat → Prop) (w : World) (hs : Small l) (hR : R w base n v l bad F) :
  Calls Tryz.prog 117 #[v] w (NumF base n v F l bad 4 (.int .u32 (val (got l bad 4))) w) := by
 have CC := Go.Lib.hid (show Calls Tryz.prog 85 #[v, .int .i64 4] w (NumF base n v F l bad 4 (.int .u32 (val (got l bad 4))) w) from number_any v base n l bad F 4 (by omega) w hR)
 have hv := valg_lt (bad := bad) (k := 4) hs (by omega)
 rw [show ((4 : Nat) : Int) = 4 from rfl] at hv
 clear hR
 generalize val (got l bad 4) = V at CC hv ⊢
 go_enter Tryz.func117, Tryz.ntmps117
 go_wp2_with (go_at_call 85; refine CC.out.mono ?_; rintro e w1 ⟨rfl, hR1, ho⟩; have H1 := Go.Lib.hid (And.intro hR1 ho); clear hR1 ho)
 go_ret
 exact ⟨rfl, H1.out⟩
def TakeF (base n : Nat) (v : Value) (F : Nat → Prop) (l : List Nat) (bad : Bool) (k : Int) (w : World) (e : Ending) (w' : World) : Prop :=
 ∃ A c, e = .returned (.slice A (got l bad k).length c) ∧ U8s w' (.slice A (got l bad k).length c) (got l bad k) ∧ R w' base n v (rest l bad k) (fails l bad k) F ∧ Only F w w'
theorem take_any (v : Value) (base n : Nat) (l : List Nat) (bad : Bool) (F : Nat → Prop) (k : Int) (hk : (Lit.int .i64 k).wf = true) (w : World) (hR : R w base n v l bad F) :
  Calls Tryz.prog 42 #[v, .int .i64 k] w (TakeF base n v F l bad k w) := by
 have CC := Go.Lib.hid (cut_any v base n l bad F k hk w hR)
 clear hR hk
 go_enter Tryz.func42, Tryz.ntmps42
 go_wp2_with (go_at_call 84; refine CC.out.mono ?_; rintro e w1 ⟨A, c, rfl, hU, hL, hR1, ho⟩; have H1 := Go.Lib.hid (And.intro hU (And.intro hR1 ho)); clear hU hL hR1 ho)
 go_ret
 exact ⟨A, c, rfl, H1.out⟩
theorem rest_any (v : Value) (base n : Nat) (l : List Nat) (bad : Bool) (F : Nat → Prop) (w : World) (hl : l.length ≤ 1000000) (hR : R w base n v l bad F) :
  Calls Tryz.prog 48 #[v] w (TakeF base n v F l bad l.length w) := by
 have CL := Go.Lib.hid (left_any v base n l bad F w hR)
 have CT := Go.Lib.hid (fun (W : World) (h : R W base n v l bad F) => take_any v base n l bad F l.length (by simp [Lit.wf, IntKind.min, IntKind.max, IntKind.signed, IntKind.bits]; omega) W h)
 have HR := Go.Lib.hid hR
 clear hR
 go_enter Tryz.func48, Tryz.ntmps48
 go_wp2_with (first
  | (go_at_call 47; refine CL.out.mono ?_; rintro e w1 ⟨rfl, hb1⟩; have B1 := Go.Lib.hid hb1; clear hb1)
  | (go_at_call 42; have h := HR.out.below B1.out; refine (CT.out _ h).mono ?_; rintro e w2 ⟨A, c, rfl, hU, hR2, ho⟩; have H1 := Go.Lib.hid (And.intro hU (And.intro hR2 ((Only.of B1.out).trans ho))); clear hU hR2 ho h))
 go_ret
 exact ⟨A, c, rfl, H1.out⟩
end Go.Proofs.YtlhdjdnflpilbaaGreatDoor.Oct
namespace Go.Proofs.YtlhdjdnflpilbaaGreatDoor.Att
open Go.RowKit Mem Oct
theorem rest_small {l : List Nat} {bad : Bool} {k : Int} (h : Small l) : Small (rest l bad k) := by
 unfold rest
 split
 ·exact small_nil
 ·exact h.drop _
theorem u8_apart {W W' : World} {v : Value} {l : List Nat} {B : Nat} (h : U8s W v l) (hB : ∀ i n, W.cell? ⟨B, i, none⟩ ≠ some (.int .u8 n)) (hk : ∀ k, k ≠ B → W'.heap[k]? = W.heap[k]?) (hs : W.heap.size ≤ W'.heap.size) : U8s W' v l := by
 obtain ⟨⟨hl, A, c, rfl, hm, hc, hr⟩, hsm⟩ := h
 refine ⟨⟨hl, A, c, rfl, hm, hc, fun h0 => ?_⟩, hsm⟩
 obtain ⟨b, off, rfl, hlt, hcell⟩ := hr h0
 obtain ⟨x, hx⟩ : ∃ x, l[0]? = some x := ⟨_, List.getElem?_eq_getElem h0⟩
 have hne : b ≠ B := fun e => by
  subst e
  have h5 := hcell 0 (.int .u8 x) (by unfold cells8; rw [List.getElem?_map, hx]; rfl)
  exact hB _ _ h5
 refine ⟨b, off, rfl, Nat.lt_of_lt_of_le hlt hs, fun i y hy => ?_⟩
 have h5 := hcell i y hy
 have h6 := hk b hne
 unfold World.cell? at h5 ⊢
 simp only [h6]
 exact h5
def No8 (x : Value) : Prop := ∀ n, x ≠ .int .u8 n
theorem no8_i (n : Int) : No8 (.int .i64 n) := fun m e => by injection e with e; cases e
theorem no8_u (n : Int) : No8 (.int .u32 n) := fun m e => by injection e with e; cases e
theorem no8_s (A : Option Addr) (n c : Nat) : No8 (.slice A n c) := fun m e => by cases e
theorem no8_b (b : Bool) : No8 (.bool b) := fun m e => by cases e
theorem no8_cells {W : World} {B : Nat} {cs : Array Value} {t : TypeId} (h : W.heap[B]? = some (.cells cs t (0, 0))) (hc : ∀ x ∈ cs, No8 x) (i : Nat) (n : Int) : W.cell? ⟨B, i, none⟩ ≠ some (.int .u8 n) := fun e => by
 simp only [World.cell?, h] at e
 have h2 : cs[i]? = some (.int .u8 n) := by simpa using e
 exact hc _ (Array.mem_of_getElem? h2) n rfl
theorem Box3.no8 {W : World} {B : Nat} {t : TypeId} {x y z : Value} (h : Box3 W B t x y z) (hx : No8 x) (hy : No8 y) (hz : No8 z) (i : Nat) (n : Int) : W.cell? ⟨B, i, none⟩ ≠ some (.int .u8 n) :=
 no8_cells h.blk (fun u hu => by
  have : u = x ∨ u = y ∨ u = z := by simpa using hu
  rcases this with rfl | rfl | rfl <;> assumption) i n
structure Rd where
 l : List Nat
 b : Bool
def Rd.go (x : Rd) (k : Int) : Rd := ⟨rest x.l x.b k, fails x.l x.b k⟩
def Rd.num (x : Rd) (k : Int) : Nat := val (got x.l x.b k)
theorem Rd.small {x : Rd} (h : Small x.l) (k : Int) : Small (x.go k).l := rest_small h
theorem num_lt {x : Rd} (h : Small x.l) (k : Nat) : x.num (k : Nat) < 256 ^ k := by
 have h1 := val_lt (got x.l x.b (k : Int)).length (got_small (bad := x.b) (k := (k : Int)) h)
 rw [List.take_length] at h1
 exact Nat.lt_of_lt_of_le h1 (Nat.pow_le_pow_right (by omega) got_len)
theorem Box4.no8 {W : World} {B : Nat} {t : TypeId} {x y z u : Value} (h : Box4 W B t x y z u) (hx : No8 x) (hy : No8 y) (hz : No8 z) (hu : No8 u) (i : Nat) (n : Int) : W.cell? ⟨B, i, none⟩ ≠ some (.int .u8 n) :=
 no8_cells h.blk (fun s hs => by
  have : s = x ∨ s = y ∨ s = z ∨ s = u := by simpa using hs
  rcases this with rfl | rfl | rfl | rfl <;> assumption) i n
theorem head_go (a : Nat) (l : List Nat) : (Rd.mk (a :: l) false).go 1 = ⟨l, false⟩ ∧ (Rd.mk (a :: l) false).num 1 = a := by
 have h : fails (a :: l) false 1 = false := by
  simp only [fails, Bool.false_or, Bool.or_eq_false_iff, decide_eq_false_iff_not, List.length_cons]
  omega
 constructor
 ·unfold Rd.go rest; dsimp only; rw [h, if_neg (by decide)]; rfl
 ·unfold Rd.num got; dsimp only; rw [h, if_neg (by decide)]; show 0 * 256 + a = a; omega
theorem two_go (a b : Nat) (l : List Nat) : (Rd.mk (a :: b :: l) false).go 2 = ⟨l, false⟩ ∧ (Rd.mk (a :: b :: l) false).num 2 = a * 256 + b := by
 have h : fails (a :: b :: l) false 2 = false := by
  simp only [fails, Bool.false_or, Bool.or_eq_false_iff, decide_eq_false_iff_not, List.length_cons]
  omega
 constructor
 ·unfold Rd.go rest; dsimp only; rw [h, if_neg (by decide)]; rfl
 ·unfold Rd.num got; dsimp only; rw [h, if_neg (by decide)]; show (0 * 256 + a) * 256 + b = _; omega
theorem go_short {l : List Nat} {k : Int} (h : (l.length : Int) < k) : ((Rd.mk l false).go k).b = true ∧ ((Rd.mk l false).go k).l = [] := by
 have hf : fails l false k = true := by simp [fails, h]
 exact ⟨hf, by show rest l false k = []; simp [rest, hf]⟩
theorem go_bad {x : Rd} (h : x.b = true) (k : Int) : (x.go k).b = true := by
 show fails x.l x.b k = true
 rw [h]; simp [fails]
theorem fit_go {l : List Nat} {n : Nat} (h : n ≤ l.length) : (Rd.mk l false).go (n : Nat) = ⟨l.drop n, false⟩ ∧ got l false (n : Nat) = l.take n := by
 have hf : fails l false (n : Nat) = false := by
  simp only [fails, Bool.false_or, Bool.or_eq_false_iff, decide_eq_false_iff_not]
  omega
 constructor
 ·unfold Rd.go rest; dsimp only; rw [hf, if_neg (by decide)]; rfl
 ·unfold got; rw [hf, if_neg (by decide)]; rfl
end Go.Proofs.YtlhdjdnflpilbaaGreatDoor.Att
