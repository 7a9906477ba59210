/- Words for memory: prefixes in a row, each with a number. It speaks of no function of the program. -/
import Derived.Test.YtpcahgnibdampaaTriMath
import Derived.Test.YtpcahgnibdampaaMem
namespace Go.Proofs.Ytpcahgnibdampaa.Tri
open Go.RowKit Mem PR

def Ent.ok (e : Ent) : Prop := e.p.ok ∧ (Lit.int .i64 e.v).wf = true
def ecell (e : Ent) : List Value := [.int .u32 e.p.a, .int .i64 e.p.n, .int .i64 e.v]
def ecells (l : List Ent) : List Value := l.flatMap ecell
theorem ecells_cons (e : Ent) (l : List Ent) : ecells (e :: l) = ecell e ++ ecells l := by simp [ecells]
theorem ecells_append (l m : List Ent) : ecells (l ++ m) = ecells l ++ ecells m := by simp [ecells]
theorem ecells_len (l : List Ent) : (ecells l).length = l.length * 3 := by
  induction l with
  | nil => rfl
  | cons a l ih =>
    rw [ecells_cons, List.length_append, ih, List.length_cons]
    simp [ecell]; omega
theorem ecells_take : ∀ (k : Nat) (l : List Ent), (ecells l).take (k * 3) = ecells (l.take k)
  | 0, l => by simp [ecells]
  | k + 1, [] => by simp [ecells]
  | k + 1, r :: l => by
    rw [ecells_cons, List.take_succ_cons, ecells_cons, ← ecells_take k l, List.take_append]
    congr 1
    · rw [List.take_of_length_le (by simp [ecell]; omega)]
    · congr 1
      simp [ecell]; omega
theorem ecells_drop : ∀ (k : Nat) (l : List Ent), (ecells l).drop (k * 3) = ecells (l.drop k)
  | 0, l => by simp
  | k + 1, [] => by simp [ecells]
  | k + 1, r :: l => by
    rw [ecells_cons, List.drop_succ_cons, ← ecells_drop k l, List.drop_append]
    rw [List.drop_of_length_le (by simp [ecell]; omega), List.nil_append]
    congr 1
    simp [ecell]; omega
theorem ecells_at : ∀ (i : Nat) (l : List Ent) (p : Ent), l[i]? = some p → ∀ j u, (ecell p)[j]? = some u → (ecells l)[i * 3 + j]? = some u
  | 0, b :: l, p, h, j, u, hu => by
    simp at h
    subst h
    have hj : j < 3 := by have := (List.getElem?_eq_some_iff.1 hu).1; simpa [ecell] using this
    rw [ecells_cons, List.getElem?_append_left (by simp [ecell]; omega), Nat.zero_mul, Nat.zero_add]
    exact hu
  | i + 1, b :: l, p, h, j, u, hu => by
    have h2 := ecells_at i l p (by simpa using h) j u hu
    rw [ecells_cons, List.getElem?_append_right (by simp [ecell]; omega), show (i + 1) * 3 + j - (ecell b).length = i * 3 + j by simp [ecell]; omega]
    exact h2
  | 0, [], p, h, _, _, _ => by simp at h
  | i + 1, [], p, h, _, _, _ => by simp at h
theorem ones_e (l : List Ent) : ∀ u ∈ ecells l, u.oneCell' = true := fun u hu => by
  obtain ⟨r, _, hr⟩ := List.mem_flatMap.1 hu
  simp only [ecell, List.mem_cons, List.not_mem_nil, or_false] at hr
  rcases hr with rfl | rfl | rfl <;> rfl
def Eoks (l : List Ent) : Prop := ∀ e ∈ l, e.ok
/-- A slice of rows. -/
def Rws (w : World) (v : Value) (l : List Ent) : Prop := Row w 3 v l.length (ecells l) ∧ Eoks l
section
variable {w w' : World} {v : Value} {l : List Ent}
theorem Rws.keep (h : Rws w v l) (hb : Below w.heap.size w w') : Rws w' v l := ⟨h.1.keep hb, h.2⟩
theorem Rws.of_own {base : Nat} {e : TypeId} (h : w.ownsRow base e 3 v l.length (ecells l)) (hl : Eoks l) : Rws w v l := ⟨Row.of_own h, hl⟩
theorem Rws.form (h : Rws w v l) : ∃ A c, v = .slice A l.length c ∧ l.length ≤ c ∧ c ≤ 9223372036854775807 := by
  obtain ⟨⟨_, A, c, rfl, h1, h2, _⟩, _⟩ := h
  exact ⟨A, c, rfl, h1, h2⟩
/-- One row's cells. -/
theorem Rws.at_ {A : Option Addr} {n c i : Nat} {e : Ent} (h : Rws w (.slice A n c) l) (hi : l[i]? = some e) :
    ∃ b off, A = some ⟨b, off, none⟩ ∧ b < w.heap.size ∧ w.cell? ⟨b, off + i * 3, none⟩ = some (.int .u32 e.p.a) ∧ w.cell? ⟨b, off + i * 3 + 1, none⟩ = some (.int .i64 e.p.n) ∧ w.cell? ⟨b, off + i * 3 + 2, none⟩ = some (.int .i64 e.v) := by
  obtain ⟨⟨_, A', c', e0, _, _, hr⟩, _⟩ := h
  injection e0 with e1 e2 e3
  subst e1 e3
  have hlt := (List.getElem?_eq_some_iff.1 hi).1
  obtain ⟨b, off, rfl, hb, hc⟩ := hr (by omega)
  have k := fun j u hu => hc (i * 3 + j) u (ecells_at i l e hi j u hu)
  refine ⟨b, off, rfl, hb, k 0 _ rfl, ?_, ?_⟩
  · rw [Nat.add_assoc]; exact k 1 _ rfl
  · rw [Nat.add_assoc]; exact k 2 _ rfl
/-- The first k, with whatever room. -/
theorem Rws.prefix_ {A : Option Addr} {n c k d : Nat} (h : Rws w (.slice A n c) l) (hk : k ≤ l.length) (hd : k ≤ d) (hm : d ≤ maxLen) : Rws w (.slice A k d) (l.take k) := by
  obtain ⟨⟨hl, A', c', e, hn, hc, hr⟩, hs⟩ := h
  injection e with e1 e2 e3
  subst e1 e3
  have hlen : (l.take k).length = k := by rw [List.length_take]; omega
  refine ⟨⟨ecells_len _, A, d, by rw [hlen], by rw [hlen]; exact hd, hm, fun h0 => ?_⟩, fun e he => hs e (List.mem_of_mem_take he)⟩
  obtain ⟨b, off, hA, hlt, hcell⟩ := hr (by omega)
  refine ⟨b, off, hA, hlt, fun i x hx => hcell i x ?_⟩
  rw [← ecells_take, List.getElem?_take] at hx
  split at hx
  · exact hx
  · cases hx
/-- What is left behind the first k. -/
theorem Rws.rest_ {b off n c k : Nat} (h : Rws w (.slice (some ⟨b, off, none⟩) n c) l) (hk : k < l.length) : Rws w (.slice (some ⟨b, off + k * 3, none⟩) (l.length - k) (c - k)) (l.drop k) := by
  obtain ⟨⟨hl, A', c', e, hn, hc, hr⟩, hs⟩ := h
  injection e with e1 e2 e3
  subst e3
  have hlen : (l.drop k).length = l.length - k := List.length_drop
  refine ⟨⟨ecells_len _, _, c - k, by rw [hlen], by rw [hlen]; omega, by unfold maxLen at hc ⊢; omega, fun h0 => ?_⟩, fun e he => hs e (List.mem_of_mem_drop he)⟩
  obtain ⟨b', off', hA, hlt, hcell⟩ := hr (by omega)
  rw [hA] at e1
  injection e1 with e1
  injection e1 with e1 e4 _
  subst e1 e4
  refine ⟨b, off + k * 3, rfl, hlt, fun i x hx => ?_⟩
  rw [← ecells_drop, List.getElem?_drop] at hx
  rw [Nat.add_assoc]
  exact hcell _ x hx
end
/-- What a call gives: rows in memory of their own. -/
def GivesR (t : TypeId) (l : List Ent) (w : World) (e : Ending) (w' : World) : Prop :=
  ∃ A c, e = .returned (.slice A l.length c) ∧ w'.ownsRow w.heap.size t 3 (.slice A l.length c) l.length (ecells l) ∧ Below w.heap.size w w'
theorem eoks_put : ∀ (l : List Ent) (p : Pf) (v : Int), Eoks l → (⟨p, v⟩ : Ent).ok → Eoks (putE l p v)
  | [], p, v, _, h => fun e he => by rw [List.mem_singleton.1 he]; exact h
  | d :: l, p, v, hl, h => by
    have h1 := hl d List.mem_cons_self
    have h2 : Eoks l := fun e he => hl e (List.mem_cons_of_mem _ he)
    unfold putE
    split
    · exact fun e he => (List.mem_cons.1 he).elim (fun q => q ▸ h) (h2 e)
    · split
      · exact fun e he => (List.mem_cons.1 he).elim (fun q => q ▸ h1) (eoks_put l p v h2 h e)
      · exact fun e he => (List.mem_cons.1 he).elim (fun q => q ▸ h) (hl e)
theorem eoks_cut (l : List Ent) (p : Pf) (h : Eoks l) : Eoks (cutE l p) := fun e he => h e ((cut_sub l p).mem he)
end Go.Proofs.Ytpcahgnibdampaa.Tri
