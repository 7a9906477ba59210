/- Plain mathematics: what a map of counts reads as, for rows in the order of their keys; what is put, cut and found there. -/
import Derived.Test.YtifaclbafmpiiaaTalSum
import Derived.Maps.OwnSet
import Derived.Maps.RangeWalk
namespace Go.Proofs.Ytifaclbafmpiiaa.Tal
open Go.RowKit Mem

/-- How two counts read. -/
def cntD (u d : Int) : DataW Unit := .agg [.lit (.int .i64 u), .lit (.int .i64 d)]
def cntR (v : Value) : Option (DataW Unit × List MemPlace) := match v with
  | .agg cs => match cs.toList with
    | [.int .i64 u, .int .i64 d] => some (cntD u d, [])
    | _ => none
  | _ => none
theorem cntR_mk (u d : Int) : cntR (.agg #[.int .i64 u, .int .i64 d]) = some (cntD u d, []) := rfl
theorem cntR_inv {v : Value} {z : DataW Unit × List MemPlace} (h : cntR v = some z) : ∃ u d, v = .agg #[.int .i64 u, .int .i64 d] ∧ z = (cntD u d, []) := by
  unfold cntR at h
  split at h
  · rename_i cs
    split at h
    · rename_i u d hcs
      refine ⟨u, d, ?_, by cases h; rfl⟩
      congr 1
      exact Array.toList_inj.1 hcs
    · cases h
  · cases h
theorem cntD_inj {u d u' d' : Int} (h : cntD u d = cntD u' d') : u = u' ∧ d = d' := by
  unfold cntD at h
  simpa using h
def rowD (r : Cnt) : Lit × DataW Unit := (.int .u32 r.key, cntD r.up r.down)
def dat (l : List Cnt) : DataW Unit := .map (l.map rowD)
/-- Rows in the order of their keys. -/
def Sorted (l : List Cnt) : Prop := l.Pairwise fun a b => a.key < b.key
theorem same_key (a b : Nat) : (Lit.int .u32 a).sameKey (.int .u32 b) = (a == b) := by
  unfold Lit.sameKey
  rw [Bool.eq_iff_iff]
  simp
  omega
theorem has_dat (l : List Cnt) (k : Nat) : Maps.has (dat l) (.int .u32 k) = (idx l k).isSome := by
  unfold dat
  rw [Maps.has_eq]
  induction l with
  | nil => rfl
  | cons r l ih =>
    rw [idx_cons, List.map_cons, List.any_cons, ih]
    show ((Lit.int .u32 (r.key : Int)).sameKey (.int .u32 k) || _) = _
    rw [same_key]
    by_cases h : r.key = k <;> simp [h]
theorem size_dat (l : List Cnt) : Maps.size (dat l) = l.length := by unfold dat; rw [Maps.size_eq]; simp
theorem at_dat (l : List Cnt) (k : Nat) : (dat l).atKey (.int .u32 k) (cntD 0 0) = cntD (ofG Cnt.up l k) (ofG Cnt.down l k) := by
  unfold dat DataW.atKey
  simp only
  induction l with
  | nil => rfl
  | cons r l ih =>
    rw [List.map_cons, List.find?_cons]
    have e : (rowD r).1.sameKey (.int .u32 k) = (r.key == k) := same_key _ _
    rw [e]
    by_cases h : r.key = k
    · simp [h, ofG, rowD]
    · have : (r.key == k) = false := by simpa using h
      rw [this]
      simp only [ofG, if_neg h]
      exact ih
/-- Rows without a key. -/
def cutS (l : List Cnt) (k : Nat) : List Cnt := l.filter fun r => !(r.key == k)
theorem del_dat (l : List Cnt) (k : Nat) : (dat l).del (.int .u32 k) = dat (cutS l k) := by
  unfold dat DataW.del cutS
  simp only
  rw [List.filter_map]
  congr 2
  apply List.filter_congr
  intro r _
  show (!(Lit.int .u32 (r.key : Int)).sameKey (.int .u32 k)) = _
  rw [same_key]
theorem ins_dat (r : Cnt) : ∀ l : List Cnt, idx l r.key = none → DataW.insert (rowD r) (l.map rowD) = (insS l r).map rowD
  | [], _ => rfl
  | x :: l, h => by
    rw [idx_cons] at h
    by_cases hx : x.key = r.key
    · rw [if_pos hx] at h; cases h
    · rw [if_neg hx] at h
      have ih := ins_dat r l (by simpa using h)
      rw [List.map_cons]
      unfold DataW.insert insS
      by_cases hlt : x.key < r.key
      · have : (rowD r).1.before (rowD x).1 = false := by
          show decide ((r.key : Int) < (x.key : Int)) = false
          simp; omega
        rw [this, if_neg (by simp), if_pos hlt, ih]; rfl
      · have : (rowD r).1.before (rowD x).1 = true := by
          show decide ((r.key : Int) < (x.key : Int)) = true
          simp; omega
        rw [this, if_pos rfl, if_neg hlt]; rfl
theorem idx_cut (l : List Cnt) (k : Nat) : idx (cutS l k) k = none := by
  unfold idx
  rw [List.findIdx?_eq_none_iff]
  intro x hx
  have := (List.mem_filter.1 hx).2
  simpa using this
theorem put_dat (l : List Cnt) (k u d : Nat) : (dat l).put (.int .u32 k) (cntD u d) = dat (insS (cutS l k) ⟨k, u, d⟩) := by
  have h := ins_dat ⟨k, u, d⟩ (cutS l k) (idx_cut l k)
  have e : (l.map rowD).filter (fun p => !p.1.sameKey (.int .u32 k)) = (cutS l k).map rowD := by
    have := del_dat l k
    unfold dat DataW.del at this
    simpa using this
  unfold dat DataW.put
  simp only
  rw [e]
  exact congrArg DataW.map h
theorem sorted_cons {x : Cnt} {l : List Cnt} : Sorted (x :: l) ↔ (∀ y ∈ l, x.key < y.key) ∧ Sorted l := List.pairwise_cons
theorem cut_none {l : List Cnt} {k : Nat} (h : idx l k = none) : cutS l k = l := by
  unfold cutS
  rw [List.filter_eq_self]
  intro x hx
  unfold idx at h
  rw [List.findIdx?_eq_none_iff] at h
  simpa using h x hx
/-- What is put at a key that is there takes its place. -/
theorem ins_cut : ∀ {l : List Cnt} {i : Nat} {k : Nat} (r : Cnt), Sorted l → idx l k = some i → r.key = k → insS (cutS l k) r = l.set i r
  | [], i, k, r, _, h, _ => by cases h
  | x :: l, i, k, r, hs, h, hk => by
    obtain ⟨h1, h2⟩ := sorted_cons.1 hs
    rw [idx_cons] at h
    by_cases hx : x.key = k
    · rw [if_pos hx] at h
      obtain rfl : 0 = i := by simpa using h
      have hn : idx l k = none := by
        unfold idx
        rw [List.findIdx?_eq_none_iff]
        intro y hy
        have := h1 y hy
        simp; omega
      have e : cutS (x :: l) k = l := by
        show List.filter _ (x :: l) = l
        rw [List.filter_cons_of_neg (by simp [hx])]
        exact cut_none hn
      rw [e, List.set_cons_zero]
      cases l with
      | nil => rfl
      | cons y l =>
        unfold insS
        have := h1 y (List.mem_cons_self ..)
        rw [if_neg (by omega)]
    · rw [if_neg hx] at h
      obtain ⟨j, hj, rfl⟩ : ∃ j, idx l k = some j ∧ j + 1 = i := by
        cases hq : idx l k with
        | none => rw [hq] at h; cases h
        | some j => rw [hq] at h; exact ⟨j, rfl, by simpa using h⟩
      have ih := ins_cut r h2 hj hk
      have e : cutS (x :: l) k = x :: cutS l k := List.filter_cons_of_pos (by simpa using hx)
      obtain ⟨y, hy, hyk⟩ := idx_at hj
      have hlt := h1 y (List.mem_of_getElem? hy)
      rw [e, List.set_cons_succ]
      unfold insS
      rw [if_pos (by omega), ih]
/-- Rows stay in order. -/
theorem sorted_cut {l : List Cnt} {k : Nat} (h : Sorted l) : Sorted (cutS l k) := h.filter _
theorem mem_ins {l : List Cnt} {r x : Cnt} : x ∈ insS l r ↔ x = r ∨ x ∈ l := by
  induction l with
  | nil => simp [insS]
  | cons y l ih =>
    unfold insS
    split
    · rw [List.mem_cons, ih, List.mem_cons]
      constructor
      · rintro (h | h | h) <;> simp [h]
      · rintro (h | h | h) <;> simp [h]
    · simp [List.mem_cons]
theorem sorted_ins : ∀ {l : List Cnt} {r : Cnt}, Sorted l → idx l r.key = none → Sorted (insS l r)
  | [], r, _, _ => by simp [insS, Sorted]
  | x :: l, r, hs, h => by
    obtain ⟨h1, h2⟩ := sorted_cons.1 hs
    rw [idx_cons] at h
    by_cases hx : x.key = r.key
    · rw [if_pos hx] at h; cases h
    · rw [if_neg hx] at h
      have ih := sorted_ins h2 (r := r) (by simpa using h)
      unfold insS
      split
      · rename_i hlt
        refine sorted_cons.2 ⟨fun y hy => ?_, ih⟩
        rcases mem_ins.1 hy with rfl | hy
        · exact hlt
        · exact h1 y hy
      · rename_i hlt
        refine sorted_cons.2 ⟨fun y hy => ?_, hs⟩
        rcases List.mem_cons.1 hy with rfl | hy
        · omega
        · have := h1 y hy; omega
theorem sorted_set : ∀ {l : List Cnt} {i : Nat} {r x : Cnt}, Sorted l → l[i]? = some x → r.key = x.key → Sorted (l.set i r)
  | [], i, r, x, _, h, _ => by simp at h
  | y :: l, 0, r, x, hs, h, hk => by
    obtain rfl : y = x := by simpa using h
    obtain ⟨h1, h2⟩ := sorted_cons.1 hs
    exact sorted_cons.2 ⟨fun z hz => by have := h1 z hz; omega, h2⟩
  | y :: l, i + 1, r, x, hs, h, hk => by
    obtain ⟨h1, h2⟩ := sorted_cons.1 hs
    have hx : l[i]? = some x := by simpa using h
    refine sorted_cons.2 ⟨fun z hz => ?_, sorted_set h2 hx hk⟩
    rcases List.mem_or_eq_of_mem_set hz with hz | rfl
    · exact h1 z hz
    · have := h1 x (List.mem_of_getElem? hx); omega
end Go.Proofs.Ytifaclbafmpiiaa.Tal
