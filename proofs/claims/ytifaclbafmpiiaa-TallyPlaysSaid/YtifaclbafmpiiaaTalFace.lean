/- The reference's Add of counts, either way; and what must be known of a tally in memory, whatever it is made of. -/
import Derived.Test.YtifaclbafmpiiaaTalAdd2
namespace Go.Proofs.Ytifaclbafmpiiaa.Tal
open Go.RowKit Mem

/-- Rows with counts added to a key's. -/
def addS (l : List Cnt) (key up down : Nat) : List Cnt := match idx l key with
  | none => insS l ⟨key, up, down⟩
  | some i => match l[i]? with
    | some r => l.set i ⟨key, r.up + up, r.down + down⟩
    | none => l
theorem idx_at {l : List Cnt} {k i : Nat} (h : idx l k = some i) : ∃ r, l[i]? = some r ∧ r.key = k := by
  unfold idx at h
  rw [List.findIdx?_eq_some_iff_getElem] at h
  obtain ⟨hi, hk, _⟩ := h
  exact ⟨l[i], List.getElem?_eq_getElem hi, by simpa using hk⟩
/-- No count is above a bound. -/
def Under (m : Nat) (l : List Cnt) : Prop := ∀ r ∈ l, r.up ≤ m ∧ r.down ≤ m
theorem radd_any (v : Value) (l : List Cnt) (key up down m : Nat) (w : World) (hv : Cnts w v l) (hlen : l.length ≤ 2000) (hu : up ≤ 1073741824) (hd : down ≤ 1073741824) (hm : Under m l) (hm2 : m + 1073741824 ≤ 549755813888) :
    Calls Try.prog 13 #[v, .int .u32 key, .int .i64 up, .int .i64 down] w (GivesC (addS l key up down) w) := by
  unfold addS
  cases h : idx l key with
  | none => exact radd_new v l key up down w hv h hlen hu hd
  | some i =>
    obtain ⟨r, hr, hk⟩ := idx_at h
    subst hk
    obtain ⟨h1, h2⟩ := hm r (List.mem_of_getElem? hr)
    simp only [hr]
    exact radd_old v l i r up down w hv h hr hlen (by omega) (by omega)
theorem under_ins {m m2 : Nat} {l : List Cnt} {r : Cnt} (h : Under m l) (h2 : m ≤ m2) (hr : r.up ≤ m2 ∧ r.down ≤ m2) : Under m2 (insS l r) := by
  induction l with
  | nil => intro x hx; obtain rfl := List.mem_singleton.1 hx; exact hr
  | cons y l ih =>
    unfold insS
    split
    · intro x hx
      rcases List.mem_cons.1 hx with rfl | hx
      · have := h x (List.mem_cons_self ..); omega
      · exact ih (fun z hz => h z (List.mem_cons_of_mem _ hz)) x hx
    · intro x hx
      rcases List.mem_cons.1 hx with rfl | hx
      · exact hr
      · have := h x hx; omega
theorem under_add {m : Nat} {l : List Cnt} {key up down : Nat} (h : Under m l) (hu : up ≤ 1073741824) (hd : down ≤ 1073741824) : Under (m + 1073741824) (addS l key up down) := by
  unfold addS
  cases hx : idx l key with
  | none => exact under_ins h (by omega) (by constructor <;> simp <;> omega)
  | some i =>
    obtain ⟨r, hr, _⟩ := idx_at hx
    simp only [hr]
    have h1 := h r (List.mem_of_getElem? hr)
    intro x hx
    rcases List.mem_or_eq_of_mem_set hx with hx | rfl
    · have := h x hx; omega
    · constructor <;> simp <;> omega
theorem addS_len (l : List Cnt) (key up down : Nat) : (addS l key up down).length ≤ l.length + 1 := by
  unfold addS
  cases hx : idx l key with
  | none => rw [insS_len]; exact Nat.le_refl _
  | some i =>
    obtain ⟨r, hr, _⟩ := idx_at hx
    simp only [hr, List.length_set]; omega

/-- From a call on, but for the blocks of one tally, what stood is as it stood; and the tally's blocks are its own or new. -/
structure Moved (F F' : Nat → Prop) (W W' : World) : Prop where
  os : W'.os = W.os
  tape : W'.tape = W.tape
  output : W'.output = W.output
  size : W.heap.size ≤ W'.heap.size
  block : ∀ k, k < W.heap.size → ¬ F k → W'.heap[k]? = W.heap[k]?
  new : ∀ k, F' k → F k ∨ W.heap.size ≤ k
theorem Moved.below {F F' : Nat → Prop} {W W' : World} {n : Nat} (h : Moved F F' W W') (hn : ∀ k, F k → n ≤ k) (hs : n ≤ W.heap.size) : Below n W W' :=
  ⟨h.os, h.tape, h.output, h.size, fun k hk => h.block k (by omega) (fun hf => by have := hn k hf; omega)⟩
/-- What is asked of 'a tally with these rows stands in these blocks'. -/
structure Face (T : World → Value → List Cnt → (Nat → Prop) → Prop) : Prop where
  lt : ∀ {W v l F k}, T W v l F → F k → k < W.heap.size
  keep : ∀ {W W' v l F}, T W v l F → W.heap.size ≤ W'.heap.size → (∀ k, F k → W'.heap[k]? = W.heap[k]?) → T W' v l F
theorem Face.below {T : World → Value → List Cnt → (Nat → Prop) → Prop} (h : Face T) {W W' : World} {v : Value} {l : List Cnt} {F : Nat → Prop} (ht : T W v l F) (hb : Below W.heap.size W W') : T W' v l F :=
  h.keep ht hb.size fun k hk => hb.block k (h.lt ht hk)
/-- Another tally's call leaves it as it stood. -/
theorem Face.other {T : World → Value → List Cnt → (Nat → Prop) → Prop} (h : Face T) {W W' : World} {v : Value} {l : List Cnt} {F G G' : Nat → Prop} (ht : T W v l F) (hm : Moved G G' W W') (hd : ∀ k, F k → ¬ G k) : T W' v l F :=
  h.keep ht hm.size fun k hk => hm.block k (h.lt ht hk) (hd k hk)
end Go.Proofs.Ytifaclbafmpiiaa.Tal
