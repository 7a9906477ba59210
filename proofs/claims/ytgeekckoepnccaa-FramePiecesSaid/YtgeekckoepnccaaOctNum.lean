/- Numbers of bytes: a reader's number, U8, U16, U32, Take, Part, Rest; the reference's Num. -/
import Derived.Test.YtgeekckoepnccaaOctCut
import Derived.Laws.BitsAllLaws
namespace Go.Proofs.Ytgeekckoepnccaa.Oct
open Go.RowKit Mem Ahead

/-- The number of bytes, the highest one first. -/
def val (l : List Nat) : Nat := l.foldl (fun n b => n * 256 + b) 0
theorem val_snoc (l : List Nat) (b : Nat) : val (l ++ [b]) = val l * 256 + b := by simp [val]
theorem val_take {l : List Nat} {k b : Nat} (h : l[k]? = some b) : val (l.take (k + 1)) = val (l.take k) * 256 + b := by
  rw [List.take_add_one, h]
  exact val_snoc _ _
theorem val_lt : ∀ (k : Nat) {l : List Nat}, Small l → val (l.take k) < 256 ^ k
  | 0, l, _ => by simp [val]
  | k + 1, l, h => by
    have ih := val_lt k h
    rw [Nat.pow_succ]
    cases hk : l[k]? with
    | none =>
      have hl : l.length ≤ k := List.getElem?_eq_none_iff.1 hk
      rw [List.take_of_length_le (by omega)]
      rw [List.take_of_length_le hl] at ih
      omega
    | some b =>
      have hb := h b (List.mem_of_getElem? hk)
      rw [val_take hk]
      omega
theorem pow_le {k : Nat} (h : k ≤ 3) : 256 ^ k ≤ 16777216 := by
  match k, h with
  | 0, _ => decide
  | 1, _ => decide
  | 2, _ => decide
  | 3, _ => decide
theorem or_byte (a b : Nat) (ha : a < 16777216) (hb : b < 256) : bits .or .u32 ((a : Int) * 256) (b : Int) = ((a * 256 + b : Nat) : Int) := by
  have h := u32_or_nat (a * 256) b (by omega) (by omega)
  rw [show ((a * 256 : Nat) : Int) = (a : Int) * 256 by omega] at h
  rw [h]
  have e := Nat.shiftLeft_add_eq_or_of_lt (i := 8) (b := b) (by omega) a
  rw [Nat.shiftLeft_eq, show (2 : Nat) ^ 8 = 256 from rfl] at e
  rw [e]
theorem got_small {l : List Nat} {bad : Bool} {k : Int} (h : Small l) : Small (got l bad k) := by
  unfold got
  split
  · exact small_nil
  · exact h.take _
theorem got_len {l : List Nat} {bad : Bool} {k : Nat} : (got l bad (k : Int)).length ≤ k := by
  unfold got
  split
  · simp
  · rw [List.length_take]; simp; omega
/-- What reading a number gives. -/
def NumF (base n : Nat) (v : Value) (F : Nat → Prop) (l : List Nat) (bad : Bool) (k : Int) (x : Value) (w : World) (e : Ending) (w' : World) : Prop :=
  e = .returned x ∧ R w' base n v (rest l bad k) (fails l bad k) F ∧ Only F w w'

set_option maxRecDepth 100000 in
set_option maxHeartbeats 2000000 in
theorem number_any (v : Value) (base n : Nat) (l : List Nat) (bad : Bool) (F : Nat → Prop) (k : Nat) (hk : k ≤ 4) (w : World) (hR : R w base n v l bad F) :
    Calls Try.prog 41 #[v, .int .i64 k] w (NumF base n v F l bad k (.int .u32 (val (got l bad k))) w) := by
  have CC := Go.Lib.hid (cut_any v base n l bad F k (by simp [Lit.wf, IntKind.min, IntKind.max, IntKind.signed, IntKind.bits]; omega) w hR)
  have hgl : (got l bad (k : Int)).length ≤ 4 := Nat.le_trans got_len hk
  obtain ⟨G, hG⟩ : ∃ G, G = got l bad (k : Int) := ⟨_, rfl⟩
  clear hR
  have CG : Calls Try.prog 40 #[v, .int .i64 k] w (fun e w' => ∃ A c, e = .returned (.tuple #[.slice A G.length c, .bool (!fails l bad k)]) ∧ U8s w' (.slice A G.length c) G ∧ R w' base n v (rest l bad k) (fails l bad k) F ∧ Only F w w') := by
    rw [hG]
    exact CC.out.mono fun e w' ⟨A, c, h1, h2, _, h3, h4⟩ => ⟨A, c, h1, h2, h3, h4⟩
  have CH := Go.Lib.hid CG
  rw [← hG] at hgl ⊢
  clear hG CG CC
  go_enter Try.func41, Try.ntmps41
  go_wp2_with (go_at_call 40; refine CH.out.mono ?_; rintro e w1 ⟨A, c, rfl, hU, hR1, ho⟩; have HU := Go.Lib.hid hU; have HR1 := Go.Lib.hid hR1; have HO := Go.Lib.hid ho; clear hU hR1 ho)
  go_loopw [7, 9, 18] (fun v7 _ v18 wx => ∃ j : Nat, j ≤ G.length ∧ v18 = .int .i64 j ∧ v7 = .int .u32 (val (G.take j)) ∧ wx = w1) (fun _ _ v18 _ => G.length - (intOf v18).toNat)
  case atStart => exact ⟨0, Nat.zero_le _, rfl, rfl, rfl⟩
  case round =>
    obtain ⟨j, hj, rfl, rfl, rfl⟩ := hrel
    by_cases hlt : j < G.length
    · obtain ⟨b, off, x, rfl, hbl, hx, hx2, hc⟩ := (HU.out).at_ hlt
      have z0 : (0 : Int) ≤ (j : Int) := by omega
      have z1 : (j : Int) < (G.length : Int) := by omega
      have hv := val_lt j HU.out.2
      have hv2 := Nat.lt_of_lt_of_le hv (pow_le (show j ≤ 3 by omega))
      have HV := Go.Lib.hid (val_take hx)
      clear hv hx
      generalize val (G.take j) = V at hv2 HV ⊢
      have ho := or_byte V x hv2 hx2
      go_wp2
      go_roundw
      case rel => exact ⟨j + 1, hlt, rfl, by rw [HV.out]; simp, trivial⟩
      case measure => simp [intOf]; omega
    · obtain rfl : j = G.length := by omega
      go_wp2
      go_ret
      rw [List.take_length]
      exact ⟨rfl, HR1.out, HO.out⟩
theorem valg_lt {l : List Nat} {bad : Bool} {k : Nat} (h : Small l) (hk : k ≤ 4) : val (got l bad (k : Int)) < 4294967296 := by
  have h1 := val_lt (got l bad (k : Int)).length (got_small (bad := bad) (k := (k : Int)) h)
  rw [List.take_length] at h1
  exact Nat.lt_of_lt_of_le h1 (Nat.le_trans (Nat.pow_le_pow_right (by omega) (Nat.le_trans got_len hk)) (by decide))
theorem u8_any (v : Value) (base n : Nat) (l : List Nat) (bad : Bool) (F : Nat → Prop) (w : World) (hs : Small l) (hR : R w base n v l bad F) :
    Calls Try.prog 34 #[v] w (NumF base n v F l bad 1 (.int .i64 (val (got l bad 1))) w) := by
  have CC := Go.Lib.hid (show Calls Try.prog 41 #[v, .int .i64 1] w (NumF base n v F l bad 1 (.int .u32 (val (got l bad 1))) w) from number_any v base n l bad F 1 (by omega) w hR)
  have hv := valg_lt (bad := bad) (k := 1) hs (by omega)
  rw [show ((1 : Nat) : Int) = 1 from rfl] at hv
  clear hR
  generalize val (got l bad 1) = V at CC hv ⊢
  go_enter Try.func34, Try.ntmps34
  go_wp2_with (go_at_call 41; refine CC.out.mono ?_; rintro e w1 ⟨rfl, hR1, ho⟩; have H1 := Go.Lib.hid (And.intro hR1 ho); clear hR1 ho)
  go_ret
  exact ⟨rfl, H1.out⟩
theorem u16_any (v : Value) (base n : Nat) (l : List Nat) (bad : Bool) (F : Nat → Prop) (w : World) (hs : Small l) (hR : R w base n v l bad F) :
    Calls Try.prog 33 #[v] w (NumF base n v F l bad 2 (.int .i64 (val (got l bad 2))) w) := by
  have CC := Go.Lib.hid (show Calls Try.prog 41 #[v, .int .i64 2] w (NumF base n v F l bad 2 (.int .u32 (val (got l bad 2))) w) from number_any v base n l bad F 2 (by omega) w hR)
  have hv := valg_lt (bad := bad) (k := 2) hs (by omega)
  rw [show ((2 : Nat) : Int) = 2 from rfl] at hv
  clear hR
  generalize val (got l bad 2) = V at CC hv ⊢
  go_enter Try.func33, Try.ntmps33
  go_wp2_with (go_at_call 41; refine CC.out.mono ?_; rintro e w1 ⟨rfl, hR1, ho⟩; have H1 := Go.Lib.hid (And.intro hR1 ho); clear hR1 ho)
  go_ret
  exact ⟨rfl, H1.out⟩
/-- What Take gives: bytes. -/
def TakeF (base n : Nat) (v : Value) (F : Nat → Prop) (l : List Nat) (bad : Bool) (k : Int) (w : World) (e : Ending) (w' : World) : Prop :=
  ∃ A c, e = .returned (.slice A (got l bad k).length c) ∧ U8s w' (.slice A (got l bad k).length c) (got l bad k) ∧ R w' base n v (rest l bad k) (fails l bad k) F ∧ Only F w w'
theorem take_any (v : Value) (base n : Nat) (l : List Nat) (bad : Bool) (F : Nat → Prop) (k : Int) (hk : (Lit.int .i64 k).wf = true) (w : World) (hR : R w base n v l bad F) :
    Calls Try.prog 32 #[v, .int .i64 k] w (TakeF base n v F l bad k w) := by
  have CC := Go.Lib.hid (cut_any v base n l bad F k hk w hR)
  clear hR hk
  go_enter Try.func32, Try.ntmps32
  go_wp2_with (go_at_call 40; refine CC.out.mono ?_; rintro e w1 ⟨A, c, rfl, hU, hL, hR1, ho⟩; have H1 := Go.Lib.hid (And.intro hU (And.intro hR1 ho)); clear hU hL hR1 ho)
  go_ret
  exact ⟨A, c, rfl, H1.out⟩
/-- What Part gives: a reader of its own, in a new block, of bytes that lie where they lay. -/
def PartF (base n : Nat) (v : Value) (F : Nat → Prop) (l : List Nat) (bad : Bool) (k : Int) (w : World) (e : Ending) (w' : World) : Prop :=
  ∃ b, e = .returned (.pointer (some ⟨b, 0, none⟩)) ∧ w.heap.size ≤ b ∧ R w' w.heap.size w'.heap.size (.pointer (some ⟨b, 0, none⟩)) (got l bad k) (fails l bad k) (fun k => k = b) ∧ R w' base n v (rest l bad k) (fails l bad k) F ∧ Only F w w'
theorem part_new {base n : Nat} {v : Value} {F : Nat → Prop} {l : List Nat} {bad : Bool} {k : Int} {w w1 : World} {A : Option Addr} {c : Nat} (hU : U8s w1 (.slice A (got l bad k).length c) (got l bad k)) (hL : Lies n F (.slice A (got l bad k).length c))
    (hn : n ≤ w.heap.size) (hR : R w1 base n v (rest l bad k) (fails l bad k) F) (ho : Only F w w1) :
    PartF base n v F l bad k w (.returned (.pointer (some ⟨w1.heap.size, 0, none⟩))) (w1.alloc (.cells #[.slice A (got l bad k).length c, .bool (fails l bad k)] 79)) := by
  have hb : Below w1.heap.size w1 (w1.alloc (.cells #[.slice A (got l bad k).length c, .bool (fails l bad k)] 79)) := (Below.refl _ w1).alloc (Nat.le_refl _) _
  have hs := ho.size
  have hsz : (w1.alloc (.cells #[.slice A (got l bad k).length c, .bool (fails l bad k)] 79)).heap.size = w1.heap.size + 1 := by simp
  refine ⟨w1.heap.size, rfl, hs, .inr ⟨w1.heap.size, _, rfl, hs, by rw [hsz]; omega, Nat.le_refl _, heap_alloc_new _ _, hU.keep hb, fun g hg => ?_, fun hf => (fails_of hf).1, rfl⟩, hR.below hb, ho.trans (Only.of hb)⟩
  have := (hL g hg).1
  rw [hsz]
  exact ⟨by omega, by omega⟩
end Go.Proofs.Ytgeekckoepnccaa.Oct
