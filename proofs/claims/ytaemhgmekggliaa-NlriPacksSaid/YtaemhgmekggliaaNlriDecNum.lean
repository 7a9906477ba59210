/- An address, byte by byte; what a reader of bytes that may end holds. It speaks of no function of the program. -/
import Derived.Test.YtaemhgmekggliaaNlriRound
namespace Go.Proofs.Ytaemhgmekggliaa.PR
open Go.RowKit Mem Pfx Oct

/-- The address of the first i bytes of r, the highest one first, as far as there are any. -/
def adr (r : List Nat) : Nat → Nat
  | 0 => 0
  | i + 1 => adr r i + r.getD i 0 * 2 ^ (24 - 8 * i)
theorem getD_small {r : List Nat} (h : Small r) (i : Nat) : r.getD i 0 < 256 := by
  rw [List.getD_eq_getElem?_getD]
  cases hx : r[i]? with
  | none => simp
  | some x => simpa using h x (List.mem_of_getElem? hx)
theorem adr_form {r : List Nat} (h : Small r) : ∀ {i : Nat}, i ≤ 4 → ∃ q, adr r i = 2 ^ (32 - 8 * i) * q ∧ q < 256 ^ i
  | 0, _ => ⟨0, by simp [adr], by simp⟩
  | i + 1, hi => by
    obtain ⟨q, hq, hq2⟩ := adr_form h (i := i) (by omega)
    have hx := getD_small h i
    refine ⟨q * 256 + r.getD i 0, ?_, by rw [Nat.pow_succ]; omega⟩
    show adr r i + _ = _
    rw [hq]
    match i, hi with
    | 0, _ => simp; omega
    | 1, _ => simp; omega
    | 2, _ => simp; omega
    | 3, _ => simp; omega
theorem adr_lt {r : List Nat} (h : Small r) {i : Nat} (hi : i ≤ 4) : adr r i < 4294967296 := by
  obtain ⟨q, hq, hq2⟩ := adr_form h hi
  rw [hq]
  match i, hi with
  | 0, _ => simp at hq2 ⊢; omega
  | 1, _ => simp at hq2 ⊢; omega
  | 2, _ => simp at hq2 ⊢; omega
  | 3, _ => simp at hq2 ⊢; omega
  | 4, _ => simp at hq2 ⊢; omega
theorem byte_pow {y i : Nat} (hx : y < 256) (hi : i < 4) : y * 2 ^ (24 - 8 * i) < 2 ^ (32 - 8 * i) := by
  rw [show 32 - 8 * i = 8 + (24 - 8 * i) by omega, Nat.pow_add]
  exact Nat.mul_lt_mul_of_pos_right hx (Nat.pow_pos (by decide))
theorem pow_step {i : Nat} (hi : i < 4) : 256 ^ (4 - i) = 256 * 256 ^ (4 - (i + 1)) ∧ 2 ^ (24 - 8 * i) = 256 ^ (4 - (i + 1)) := by
  constructor
  · rw [show 4 - i = 1 + (4 - (i + 1)) by omega, Nat.pow_add]
  · rw [show (256 : Nat) = 2 ^ 8 by rfl, ← Nat.pow_mul]
    congr 1
    omega
theorem adr_or {r : List Nat} (h : Small r) {i : Nat} (hi : i < 4) : bits .or .u32 (adr r i : Int) (((r.getD i 0 : Nat) : Int) * 2 ^ (24 - 8 * i)) = (adr r (i + 1) : Int) := by
  have hx := getD_small h i
  have h1 := adr_lt h (i := i) (by omega)
  have h2 := adr_lt h (i := i + 1) (by omega)
  have e1 : (((r.getD i 0 : Nat) : Int) * 2 ^ (24 - 8 * i)) = ((r.getD i 0 * 2 ^ (24 - 8 * i) : Nat) : Int) := by simp
  have h3 : r.getD i 0 * 2 ^ (24 - 8 * i) < 4294967296 := by
    have : adr r (i + 1) = adr r i + r.getD i 0 * 2 ^ (24 - 8 * i) := rfl
    omega
  rw [e1, u32_or_nat _ _ h1 h3]
  congr 1
  obtain ⟨q, hq, _⟩ := adr_form h (i := i) (by omega)
  have e2 := Nat.two_pow_add_eq_or_of_lt (i := 32 - 8 * i) (b := r.getD i 0 * 2 ^ (24 - 8 * i)) (byte_pow hx hi) q
  show _ = adr r i + _
  rw [hq, e2]
theorem shl_byte {x d : Nat} (hx : x < 256) (hd : d ≤ 24) : IntKind.u32.wrap ((x : Int) * 2 ^ d) = (x : Int) * 2 ^ d := by
  have h : x * 2 ^ d < 4294967296 := by
    have h1 : 2 ^ d ≤ 2 ^ 24 := Nat.pow_le_pow_right (by omega) hd
    have h2 : x * 2 ^ d ≤ 255 * 2 ^ 24 := Nat.mul_le_mul (by omega) h1
    omega
  have e : (x : Int) * 2 ^ d = ((x * 2 ^ d : Nat) : Int) := by simp
  rw [e, IntKind.wrap_u32]
  omega
theorem val_snoc0 (l : List Nat) : ∀ k, val (l ++ List.replicate k 0) = val l * 256 ^ k
  | 0 => by simp
  | k + 1 => by
    rw [List.replicate_succ', ← List.append_assoc, val_snoc, val_snoc0 l k, Nat.pow_succ]
    simp [Nat.mul_assoc]
theorem val_adr {r : List Nat} : ∀ {i : Nat}, i ≤ 4 → i ≤ r.length → val (r.take i) * 256 ^ (4 - i) = adr r i
  | 0, _, _ => by simp [val, adr]
  | i + 1, hi, hr => by
    have ih := val_adr (r := r) (i := i) (by omega) (by omega)
    obtain ⟨x, hx⟩ : ∃ x, r[i]? = some x := ⟨_, List.getElem?_eq_getElem (by omega)⟩
    have e : r.getD i 0 = x := by rw [List.getD_eq_getElem?_getD, hx]; rfl
    show _ = adr r i + _
    rw [← ih, e, val_take hx]
    obtain ⟨p1, p2⟩ := pow_step (i := i) (by omega)
    rw [p1, p2, Nat.add_mul, Nat.mul_assoc]
theorem fill_adr {r : List Nat} {i : Nat} (hi : i ≤ 4) (hr : i ≤ r.length) : val (fill r i) = adr r i := by
  unfold fill
  rw [val_snoc0, val_adr hi hr]
theorem drop_rest (r : List Nat) (i : Nat) : rest (r.drop i) (decide (r.length < i)) 1 = r.drop (i + 1) := by
  unfold rest fails
  split
  · rename_i h
    simp only [Bool.or_eq_true, decide_eq_true_eq, List.length_drop] at h
    rw [List.drop_of_length_le (by omega)]
  · rw [List.drop_drop]; rfl
theorem drop_fails (r : List Nat) (i : Nat) : fails (r.drop i) (decide (r.length < i)) 1 = decide (r.length < i + 1) := by
  unfold fails
  rw [Bool.eq_iff_iff]
  simp only [Bool.or_eq_true, decide_eq_true_eq, List.length_drop]
  omega
theorem drop_got (r : List Nat) (i : Nat) : val (got (r.drop i) (decide (r.length < i)) 1) = r.getD i 0 := by
  unfold got
  rw [drop_fails, List.getD_eq_getElem?_getD]
  by_cases h : r.length < i + 1
  · rw [decide_eq_true h, if_pos rfl, List.getElem?_eq_none (by omega)]; rfl
  · rw [decide_eq_false h, if_neg (by decide), List.drop_eq_getElem_cons (by omega), List.getElem?_eq_getElem (by omega)]
    show val [r[i]] = r[i]
    show 0 * 256 + r[i] = r[i]
    omega
end Go.Proofs.Ytaemhgmekggliaa.PR
