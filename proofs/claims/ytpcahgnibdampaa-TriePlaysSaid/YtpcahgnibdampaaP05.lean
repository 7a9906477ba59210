/- Plain mathematics: prefixes in order, each with a number; what is there of them. It speaks of no function of the program. Plain mathematics: a tree of prefixes no node of which is idle, and the rows that it stands for. It speaks of no function of the program. Words for memory: prefixes in a row, each with a number. It speaks of no function of the program. What gives prefixes in memory of its own. Plain mathematics: rows by their places. It speaks of no function of the program. The reference's Same, of any two lists of prefixes. -/
import Derived.Test.YtpcahgnibdampaaP00
import Derived.Test.YtpcahgnibdampaaP04
import Derived.BigQuiet
namespace Go.Proofs.Ytpcahgnibdampaa.Tri
open PR Pfx
instance : DecidableEq Pf := fun p q => if h : p.a = q.a ∧ p.n = q.n then isTrue (by
    obtain ⟨a, n⟩ := p
    obtain ⟨b, m⟩ := q
    obtain ⟨h1, h2⟩ := h
    dsimp only at h1 h2
    rw [h1, h2]) else isFalse (fun e => h (by rw [e]; exact ⟨rfl, rfl⟩))
structure Ent where
  p : Pf
  v : Int
def goodP (p : Pf) : Bool := goodB p.a p.n
def covP (p q : Pf) : Bool := coversB p.a p.n q.a q.n
def ltP (p q : Pf) : Prop := p.a < q.a ∨ p.a = q.a ∧ p.n < q.n
instance (p q : Pf) : Decidable (ltP p q) := by unfold ltP; exact inferInstance
theorem cmp_lt {p q : Pf} : cmpP p.a p.n q.a q.n < 0 ↔ ltP p q := by
  unfold cmpP ltP
  split
  · rename_i h; exact ⟨fun _ => h, fun _ => by decide⟩
  · rename_i h; split <;> exact ⟨fun e => absurd e (by decide), fun e => absurd e h⟩
theorem pf_ext {p q : Pf} (h : p.a = q.a) (h2 : p.n = q.n) : p = q := by
  obtain ⟨a, n⟩ := p
  obtain ⟨b, m⟩ := q
  dsimp only at h h2
  rw [h, h2]
theorem lt_irrefl (p : Pf) : ¬ ltP p p := by unfold ltP; omega
theorem lt_trans {p q r : Pf} (h : ltP p q) (h2 : ltP q r) : ltP p r := by unfold ltP at *; omega
theorem lt_asymm {p q : Pf} (h : ltP p q) : ¬ ltP q p := by unfold ltP at *; omega
theorem lt_tri (p q : Pf) : ltP p q ∨ p = q ∨ ltP q p := by
  unfold ltP
  rcases Nat.lt_trichotomy p.a q.a with h | h | h
  · exact .inl (.inl h)
  · rcases Int.lt_trichotomy p.n q.n with h2 | h2 | h2
    · exact .inl (.inr ⟨h, h2⟩)
    · exact .inr (.inl (pf_ext h h2))
    · exact .inr (.inr (.inr ⟨h.symm, h2⟩))
  · exact .inr (.inr (.inl h))
def Ord (l : List Ent) : Prop := l.Pairwise (fun x y => ltP x.p y.p)
def keys (l : List Ent) : List Pf := l.map (·.p)
def getE (l : List Ent) (p : Pf) : Option Int := (l.find? (fun e => decide (e.p = p))).map (·.v)
def putE : List Ent → Pf → Int → List Ent
  | [], p, v => [⟨p, v⟩]
  | e :: l, p, v => if e.p = p then ⟨p, v⟩ :: l else if ltP e.p p then e :: putE l p v else ⟨p, v⟩ :: e :: l
def cutE : List Ent → Pf → List Ent
  | [], _ => []
  | e :: l, p => if e.p = p then l else e :: cutE l p
def aboveE (l : List Ent) (p : Pf) : List Pf := (l.filter (fun e => decide (e.p ≠ p) && covP e.p p)).map (·.p)
def belowE (l : List Ent) (p : Pf) : List Pf := (l.filter (fun e => decide (e.p ≠ p) && covP p e.p)).map (·.p)
def shortB : Option Ent → Pf → Bool
  | none, _ => true
  | some x, q => decide (x.p.n < q.n)
def longE (a : Nat) : Option Ent → List Ent → Option Ent
  | b, [] => b
  | b, e :: l => longE a (if covP e.p ⟨a, 32⟩ && shortB b e.p then some e else b) l
theorem keys_put : ∀ (l : List Ent) (p : Pf) (v : Int) (q : Pf), q ∈ keys (putE l p v) ↔ q = p ∨ q ∈ keys l
  | [], p, v, q => by simp [putE, keys]
  | e :: l, p, v, q => by
    have ih := keys_put l p v q
    unfold putE
    split
    · rename_i h
      simp only [keys, List.map_cons, List.mem_cons, h]
      constructor
      · rintro (h | h)
        · exact .inl h
        · exact .inr (.inr h)
      · rintro (h | h | h)
        · exact .inl h
        · exact .inl h
        · exact .inr h
    · split
      · simp only [keys, List.map_cons, List.mem_cons] at ih ⊢
        rw [ih]
        constructor
        · rintro (h | h | h)
          · exact .inr (.inl h)
          · exact .inl h
          · exact .inr (.inr h)
        · rintro (h | h | h)
          · exact .inr (.inl h)
          · exact .inl h
          · exact .inr (.inr h)
      · simp only [keys, List.map_cons, List.mem_cons]
theorem ord_put : ∀ (l : List Ent) (p : Pf) (v : Int), Ord l → Ord (putE l p v)
  | [], p, v, _ => by simp [putE, Ord]
  | e :: l, p, v, h => by
    unfold Ord at h
    rw [List.pairwise_cons] at h
    obtain ⟨h1, h2⟩ := h
    unfold putE
    split
    · rename_i he
      unfold Ord
      rw [List.pairwise_cons]
      exact ⟨fun y hy => he ▸ h1 y hy, h2⟩
    · rename_i hne
      split
      · rename_i hlt
        unfold Ord
        rw [List.pairwise_cons]
        refine ⟨fun y hy => ?_, ord_put l p v h2⟩
        have hk : y.p ∈ keys (putE l p v) := List.mem_map.2 ⟨y, hy, rfl⟩
        rcases (keys_put l p v y.p).1 hk with e2 | hk
        · rw [e2]; exact hlt
        · obtain ⟨z, hz, e2⟩ := List.mem_map.1 hk
          rw [← e2]; exact h1 z hz
      · rename_i hnl
        have hlt : ltP p e.p := (lt_tri e.p p).resolve_left hnl |>.resolve_left hne
        unfold Ord
        rw [List.pairwise_cons]
        refine ⟨fun y hy => ?_, List.pairwise_cons.2 ⟨h1, h2⟩⟩
        rcases List.mem_cons.1 hy with rfl | hy
        · exact hlt
        · exact lt_trans hlt (h1 y hy)
theorem cut_sub : ∀ (l : List Ent) (p : Pf), (cutE l p).Sublist l
  | [], _ => List.Sublist.slnil
  | e :: l, p => by
    unfold cutE
    split
    · exact List.sublist_cons_self _ _
    · exact (cut_sub l p).cons_cons e
theorem ord_cut (l : List Ent) (p : Pf) (h : Ord l) : Ord (cutE l p) := h.sublist (cut_sub l p)
theorem get_none {l : List Ent} {p : Pf} : getE l p = none ↔ p ∉ keys l := by
  unfold getE keys
  rw [Option.map_eq_none_iff, List.find?_eq_none]
  constructor
  · intro h hp
    obtain ⟨e, he, e2⟩ := List.mem_map.1 hp
    exact h e he (decide_eq_true e2)
  · intro h e he h2
    exact h (List.mem_map.2 ⟨e, he, of_decide_eq_true h2⟩)
end Go.Proofs.Ytpcahgnibdampaa.Tri
namespace Go.Proofs.Ytpcahgnibdampaa.Tri
open PR Pfx
theorem cut_next (a k : Nat) (hk : k < 32) : cutN a (k + 1) = cutN a k + bitN a k * 2 ^ (31 - k) := by
  unfold cutN bitN
  rw [show 32 - (k + 1) = 31 - k by omega, pow_split k hk, ← Nat.div_div_eq_div_mul]
  generalize 2 ^ (31 - k) = t
  generalize a / t = z
  rw [Nat.mul_comm t 2, ← Nat.mul_assoc, ← Nat.add_mul]
  congr 1; omega
inductive Tr where
  | nil : Tr
  | node : Pf → Option Int → Tr → Tr → Tr
def topE (p : Pf) : Option Int → List Ent
  | none => []
  | some x => [⟨p, x⟩]
def ents : Tr → List Ent
  | .nil => []
  | .node p v a b => topE p v ++ (ents a ++ ents b)
def size : Tr → Nat
  | .nil => 0
  | .node _ _ a b => 1 + size a + size b
def Side (p : Pf) (i : Nat) (q : Pf) : Prop := p.n < q.n ∧ cutN q.a p.n.toNat = p.a ∧ bitN q.a p.n.toNat = i
def In (p : Pf) (i : Nat) : Tr → Prop
  | .nil => True
  | .node q _ _ _ => Side p i q
def WF : Tr → Prop
  | .nil => True
  | .node p v a b => (goodP p = true ∧ p.a < 4294967296) ∧ (v.isSome = true ∨ (a ≠ .nil ∧ b ≠ .nil)) ∧ In p 0 a ∧ In p 1 b ∧ WF a ∧ WF b
theorem good_len {p : Pf} (h : goodP p = true) : 0 ≤ p.n ∧ p.n ≤ 32 := goodB_len h
theorem good_cut {p : Pf} (h : goodP p = true) : cutN p.a p.n.toNat = p.a := by
  have h1 := good_len h
  unfold goodP at h
  rw [show p.n = ((p.n.toNat : Nat) : Int) by omega] at h
  simpa using goodB_cut h
theorem cutN_cutN (a m n : Nat) (h : n ≤ m) (hm : m ≤ 32) : cutN (cutN a m) n = cutN a n := by
  refine Nat.eq_of_testBit_eq fun i => ?_
  rw [testBit_cut, testBit_cut, testBit_cut]
  by_cases h1 : 32 - n ≤ i
  · have h2 : 32 - m ≤ i := by omega
    simp [h1, h2]
  · simp [h1]
theorem bit_test (a i : Nat) : bitN a i = (a.testBit (31 - i)).toNat := by
  unfold bitN
  rw [Nat.toNat_testBit]
theorem bit_cut (a m i : Nat) (h : i < m) (hm : m ≤ 32) : bitN (cutN a m) i = bitN a i := by
  rw [bit_test, bit_test, testBit_cut]
  have : 32 - m ≤ 31 - i := by omega
  simp [this]
theorem side_trans {p q r : Pf} {i j : Nat} (hp : goodP p = true) (hq : goodP q = true) (h : Side p i q) (h2 : Side q j r) : Side p i r := by
  obtain ⟨h3, h4, h5⟩ := h
  obtain ⟨h6, h7, h8⟩ := h2
  have hl := good_len hp
  have hl2 := good_len hq
  refine ⟨by omega, ?_, ?_⟩
  · rw [← cutN_cutN r.a q.n.toNat p.n.toNat (by omega) (by omega), h7, h4]
  · rw [← bit_cut r.a q.n.toNat p.n.toNat (by omega) (by omega), h7, h5]
theorem in_keys : ∀ (t : Tr) (p : Pf) (i : Nat), goodP p = true → WF t → In p i t → ∀ k ∈ keys (ents t), Side p i k
  | .nil, _, _, _, _, _, k, hk => by cases hk
  | .node q v a b, p, i, hp, hw, hi, k, hk => by
    obtain ⟨⟨hq, -⟩, -, ha, hb, wa, wb⟩ := hw
    have e : ents (.node q v a b) = topE q v ++ (ents a ++ ents b) := rfl
    rw [e] at hk
    simp only [keys, List.map_append, List.mem_append] at hk
    rcases hk with hk | hk | hk
    · cases v with
      | none => simp [topE] at hk
      | some x =>
        simp only [topE, List.map_cons, List.map_nil, List.mem_singleton] at hk
        rw [hk]; exact hi
    · exact side_trans hp hq hi (in_keys a q 0 hq wa ha k hk)
    · exact side_trans hp hq hi (in_keys b q 1 hq wb hb k hk)
theorem bit_le (a k : Nat) (hk : k < 32) : a < cutN a (k + 1) + 2 ^ (31 - k) := by
  unfold cutN
  rw [show 32 - (k + 1) = 31 - k by omega]
  have := Nat.mod_add_div a (2 ^ (31 - k))
  have h2 := Nat.mod_lt a (pow_pos (31 - k))
  rw [Nat.mul_comm (a / 2 ^ (31 - k))]
  omega
theorem side_lt {p q r : Pf} (hp : goodP p = true) (hr : goodP r = true) (h : Side p 0 q) (h2 : Side p 1 r) : ltP q r := by
  have hl := good_len hp
  have hl2 := good_len hr
  have hlt := h2.1
  have h3 := cut_next q.a p.n.toNat (by omega)
  have h4 := cut_next r.a p.n.toNat (by omega)
  rw [h.2.1, h.2.2] at h3
  rw [h2.2.1, h2.2.2] at h4
  have h5 := bit_le q.a p.n.toNat (by omega)
  have h6 := cutN_le r.a (p.n.toNat + 1)
  refine .inl ?_
  omega
theorem side_up {p q : Pf} {i : Nat} (h : Side p i q) : ltP p q := by
  have h1 := cutN_le q.a p.n.toNat
  rw [h.2.1] at h1
  rcases Nat.lt_or_ge p.a q.a with h2 | h2
  · exact .inl h2
  · exact .inr ⟨by omega, h.1⟩
def GoodL (l : List Ent) : Prop := ∀ k ∈ keys l, goodP k = true ∧ k.a < 4294967296
theorem ents_good : ∀ (t : Tr), WF t → GoodL (ents t)
  | .nil, _, k, hk => by cases hk
  | .node q v a b, hw, k, hk => by
    obtain ⟨hq, -, -, -, wa, wb⟩ := hw
    have e : ents (.node q v a b) = topE q v ++ (ents a ++ ents b) := rfl
    rw [e] at hk
    simp only [keys, List.map_append, List.mem_append] at hk
    rcases hk with hk | hk | hk
    · cases v with
      | none => simp [topE] at hk
      | some x =>
        simp only [topE, List.map_cons, List.map_nil, List.mem_singleton] at hk
        rw [hk]; exact hq
    · exact ents_good a wa k hk
    · exact ents_good b wb k hk
theorem key_mem {l : List Ent} {e : Ent} (h : e ∈ l) : e.p ∈ keys l := List.mem_map.2 ⟨e, h, rfl⟩
theorem ents_ord : ∀ (t : Tr), WF t → Ord (ents t)
  | .nil, _ => List.Pairwise.nil
  | .node q v a b, hw => by
    obtain ⟨hq, -, ia, ib, wa, wb⟩ := hw
    have ka := in_keys a q 0 hq.1 wa ia
    have kb := in_keys b q 1 hq.1 wb ib
    have h2 : Ord (ents a ++ ents b) := List.pairwise_append.2 ⟨ents_ord a wa, ents_ord b wb, fun x hx y hy => side_lt hq.1 (ents_good b wb y.p (key_mem hy)).1 (ka x.p (key_mem hx)) (kb y.p (key_mem hy))⟩
    cases v with
    | none => exact h2
    | some x =>
      refine List.pairwise_cons.2 ⟨fun y hy => ?_, h2⟩
      rcases List.mem_append.1 (show y ∈ ents a ++ ents b from hy) with hy | hy
      · exact side_up (ka y.p (key_mem hy))
      · exact side_up (kb y.p (key_mem hy))
theorem size_le : ∀ (t : Tr), WF t → (ents t).length ≤ size t ∧ (t ≠ .nil → size t + 1 ≤ 2 * (ents t).length)
  | .nil, _ => ⟨Nat.le_refl _, fun h => absurd rfl h⟩
  | .node q v a b, hw => by
    obtain ⟨-, h, -, -, wa, wb⟩ := hw
    obtain ⟨a1, a2⟩ := size_le a wa
    obtain ⟨b1, b2⟩ := size_le b wb
    have za : a = .nil → size a = 0 := fun e => by rw [e]; rfl
    have zb : b = .nil → size b = 0 := fun e => by rw [e]; rfl
    have ha : size a ≤ 2 * (ents a).length := by
      by_cases e : a = .nil
      · have := za e; omega
      · have := a2 e; omega
    have hb : size b ≤ 2 * (ents b).length := by
      by_cases e : b = .nil
      · have := zb e; omega
      · have := b2 e; omega
    cases v with
    | some x =>
      have e : (ents (.node q (some x) a b)).length = 1 + ((ents a).length + (ents b).length) := by simp [ents, topE, Nat.add_comm]
      have e2 : size (.node q (some x) a b) = 1 + size a + size b := rfl
      exact ⟨by omega, fun _ => by omega⟩
    | none =>
      have e : (ents (.node q none a b)).length = (ents a).length + (ents b).length := by simp [ents, topE]
      have e2 : size (.node q none a b) = 1 + size a + size b := rfl
      obtain ⟨h1, h2⟩ := h.resolve_left (by decide)
      have := a2 h1
      have := b2 h2
      exact ⟨by omega, fun _ => by omega⟩
def Cov (p q : Pf) : Prop := p.n ≤ q.n ∧ cutN q.a p.n.toNat = p.a
theorem side_cov {p q : Pf} {i : Nat} (h : Side p i q) : Cov p q := ⟨Int.le_of_lt h.1, h.2.1⟩
theorem root_cov {q : Pf} {v : Option Int} {a b : Tr} (hw : WF (.node q v a b)) : ∀ k ∈ keys (ents (.node q v a b)), Cov q k := fun k hk => by
  obtain ⟨hq, -, ia, ib, wa, wb⟩ := hw
  have e : ents (.node q v a b) = topE q v ++ (ents a ++ ents b) := rfl
  rw [e] at hk
  simp only [keys, List.map_append, List.mem_append] at hk
  rcases hk with hk | hk | hk
  · cases v with
    | none => simp [topE] at hk
    | some x =>
      simp only [topE, List.map_cons, List.map_nil, List.mem_singleton] at hk
      rw [hk]; exact ⟨Int.le_refl _, good_cut hq.1⟩
  · exact side_cov (in_keys a q 0 hq.1 wa ia k hk)
  · exact side_cov (in_keys b q 1 hq.1 wb ib k hk)
end Go.Proofs.Ytpcahgnibdampaa.Tri
namespace Go.Proofs.Ytpcahgnibdampaa.Tri
open Go.RowKit Mem PR
def Ent.ok (e : Ent) : Prop := e.p.ok ∧ (Lit.int .i64 e.v).wf = true
def ecell (e : Ent) : List Value := [.int .u32 e.p.a, .int .i64 e.p.n, .int .i64 e.v]
def ecells (l : List Ent) : List Value := l.flatMap ecell
theorem ecells_cons (e : Ent) (l : List Ent) : ecells (e :: l) = ecell e ++ ecells l := by simp [ecells]
theorem ecells_append (l m : List Ent) : ecells (l ++ m) = ecells l ++ ecells m := by simp [ecells]
theorem ecells_len (l : List Ent) : (ecells l).length = l.length * 3 := by
  induction l with
  | nil => rfl
  | cons a l ih =>
    rw [ecells_cons, List.length_append, ih, List.length_cons]
    simp [ecell]; omega
theorem ecells_take : ∀ (k : Nat) (l : List Ent), (ecells l).take (k * 3) = ecells (l.take k)
  | 0, l => by simp [ecells]
  | k + 1, [] => by simp [ecells]
  | k + 1, r :: l => by
    rw [ecells_cons, List.take_succ_cons, ecells_cons, ← ecells_take k l, List.take_append]
    congr 1
    · rw [List.take_of_length_le (by simp [ecell]; omega)]
    · congr 1
      simp [ecell]; omega
theorem ecells_drop : ∀ (k : Nat) (l : List Ent), (ecells l).drop (k * 3) = ecells (l.drop k)
  | 0, l => by simp
  | k + 1, [] => by simp [ecells]
  | k + 1, r :: l => by
    rw [ecells_cons, List.drop_succ_cons, ← ecells_drop k l, List.drop_append]
    rw [List.drop_of_length_le (by simp [ecell]; omega), List.nil_append]
    congr 1
    simp [ecell]; omega
theorem ecells_at : ∀ (i : Nat) (l : List Ent) (p : Ent), l[i]? = some p → ∀ j u, (ecell p)[j]? = some u → (ecells l)[i * 3 + j]? = some u
  | 0, b :: l, p, h, j, u, hu => by
    simp at h
    subst h
    have hj : j < 3 := by have := (List.getElem?_eq_some_iff.1 hu).1; simpa [ecell] using this
    rw [ecells_cons, List.getElem?_append_left (by simp [ecell]; omega), Nat.zero_mul, Nat.zero_add]
    exact hu
  | i + 1, b :: l, p, h, j, u, hu => by
    have h2 := ecells_at i l p (by simpa using h) j u hu
    rw [ecells_cons, List.getElem?_append_right (by simp [ecell]; omega), show (i + 1) * 3 + j - (ecell b).length = i * 3 + j by simp [ecell]; omega]
    exact h2
  | 0, [], p, h, _, _, _ => by simp at h
  | i + 1, [], p, h, _, _, _ => by simp at h
theorem ones_e (l : List Ent) : ∀ u ∈ ecells l, u.oneCell' = true := fun u hu => by
  obtain ⟨r, _, hr⟩ := List.mem_flatMap.1 hu
  simp only [ecell, List.mem_cons, List.not_mem_nil, or_false] at hr
  rcases hr with rfl | rfl | rfl <;> rfl
def Eoks (l : List Ent) : Prop := ∀ e ∈ l, e.ok
def Rws (w : World) (v : Value) (l : List Ent) : Prop := Row w 3 v l.length (ecells l) ∧ Eoks l
section
variable {w w' : World} {v : Value} {l : List Ent}
theorem Rws.keep (h : Rws w v l) (hb : Below w.heap.size w w') : Rws w' v l := ⟨h.1.keep hb, h.2⟩
theorem Rws.of_own {base : Nat} {e : TypeId} (h : w.ownsRow base e 3 v l.length (ecells l)) (hl : Eoks l) : Rws w v l := ⟨Row.of_own h, hl⟩
theorem Rws.form (h : Rws w v l) : ∃ A c, v = .slice A l.length c ∧ l.length ≤ c ∧ c ≤ 9223372036854775807 := by
  obtain ⟨⟨_, A, c, rfl, h1, h2, _⟩, _⟩ := h
  exact ⟨A, c, rfl, h1, h2⟩
theorem Rws.at_ {A : Option Addr} {n c i : Nat} {e : Ent} (h : Rws w (.slice A n c) l) (hi : l[i]? = some e) :
    ∃ b off, A = some ⟨b, off, none⟩ ∧ b < w.heap.size ∧ w.cell? ⟨b, off + i * 3, none⟩ = some (.int .u32 e.p.a) ∧ w.cell? ⟨b, off + i * 3 + 1, none⟩ = some (.int .i64 e.p.n) ∧ w.cell? ⟨b, off + i * 3 + 2, none⟩ = some (.int .i64 e.v) := by
  obtain ⟨⟨_, A', c', e0, _, _, hr⟩, _⟩ := h
  injection e0 with e1 e2 e3
  subst e1 e3
  have hlt := (List.getElem?_eq_some_iff.1 hi).1
  obtain ⟨b, off, rfl, hb, hc⟩ := hr (by omega)
  have k := fun j u hu => hc (i * 3 + j) u (ecells_at i l e hi j u hu)
  refine ⟨b, off, rfl, hb, k 0 _ rfl, ?_, ?_⟩
  · rw [Nat.add_assoc]; exact k 1 _ rfl
  · rw [Nat.add_assoc]; exact k 2 _ rfl
theorem Rws.prefix_ {A : Option Addr} {n c k d : Nat} (h : Rws w (.slice A n c) l) (hk : k ≤ l.length) (hd : k ≤ d) (hm : d ≤ maxLen) : Rws w (.slice A k d) (l.take k) := by
  obtain ⟨⟨hl, A', c', e, hn, hc, hr⟩, hs⟩ := h
  injection e with e1 e2 e3
  subst e1 e3
  have hlen : (l.take k).length = k := by rw [List.length_take]; omega
  refine ⟨⟨ecells_len _, A, d, by rw [hlen], by rw [hlen]; exact hd, hm, fun h0 => ?_⟩, fun e he => hs e (List.mem_of_mem_take he)⟩
  obtain ⟨b, off, hA, hlt, hcell⟩ := hr (by omega)
  refine ⟨b, off, hA, hlt, fun i x hx => hcell i x ?_⟩
  rw [← ecells_take, List.getElem?_take] at hx
  split at hx
  · exact hx
  · cases hx
end
theorem eoks_put : ∀ (l : List Ent) (p : Pf) (v : Int), Eoks l → (⟨p, v⟩ : Ent).ok → Eoks (putE l p v)
  | [], p, v, _, h => fun e he => by rw [List.mem_singleton.1 he]; exact h
  | d :: l, p, v, hl, h => by
    have h1 := hl d List.mem_cons_self
    have h2 : Eoks l := fun e he => hl e (List.mem_cons_of_mem _ he)
    unfold putE
    split
    · exact fun e he => (List.mem_cons.1 he).elim (fun q => q ▸ h) (h2 e)
    · split
      · exact fun e he => (List.mem_cons.1 he).elim (fun q => q ▸ h1) (eoks_put l p v h2 h e)
      · exact fun e he => (List.mem_cons.1 he).elim (fun q => q ▸ h) (hl e)
end Go.Proofs.Ytpcahgnibdampaa.Tri
namespace Go.Proofs.Ytpcahgnibdampaa.PR
open Go.RowKit Go.Sort Mem Pfx
theorem elemP : ∃ i, IsElem Try.prog 41 25 2 16 i (.agg #[.int .u32 0, .int .i64 0]) := IsElem.mk_ Try.underlying41 (by kernel_rfl) rfl (by decide)
def GivesP (l : List Pf) (w : World) (e : Ending) (w' : World) : Prop :=
  ∃ A c, e = .returned (.slice A l.length c) ∧ w'.ownsRow w.heap.size 25 2 (.slice A l.length c) l.length (pcells l) ∧ Below w.heap.size w w'
theorem own_blk2 {W : World} {base B : Nat} {t : TypeId} (hB : base ≤ B) (h : W.heap[B]? = some (.cells #[] t (0, 0))) : W.ownsRow base t 2 (.slice (some ⟨B, 0, none⟩) 0 0) 0 [] :=
  ⟨rfl, .inr ⟨B, 0, #[], rfl, hB, h, Nat.le_refl _, Nat.zero_le _, rfl, rfl⟩⟩
end Go.Proofs.Ytpcahgnibdampaa.PR
namespace Go.Proofs.Ytpcahgnibdampaa.Tri
open PR Pfx
def StandsAt (l : List Ent) (p : Pf) (i : Nat) : Prop := (∃ e, l[i]? = some e ∧ e.p = p) ∧ ∀ e ∈ l.take i, e.p ≠ p
theorem stands_get {l : List Ent} {p : Pf} {i : Nat} (h : StandsAt l p i) : ∃ e, l[i]? = some e ∧ e.p = p ∧ getE l p = some e.v := by
  obtain ⟨⟨e, h1, h2⟩, h3⟩ := h
  refine ⟨e, h1, h2, ?_⟩
  obtain ⟨hi, he⟩ := List.getElem?_eq_some_iff.1 h1
  unfold getE
  have hs : l = l.take i ++ e :: l.drop (i + 1) := by
    rw [← he, ← List.drop_eq_getElem_cons hi, List.take_append_drop]
  rw [hs, List.find?_append, List.find?_eq_none.2 (fun x hx => by simpa using h3 x hx), List.find?_cons, h2]
  simp
theorem none_get {l : List Ent} {p : Pf} (h : ∀ e ∈ l, e.p ≠ p) : getE l p = none := get_none.2 (fun hp => by
  obtain ⟨e, he, e2⟩ := List.mem_map.1 hp
  exact h e he e2)
theorem cut_at : ∀ (l : List Ent) (p : Pf) (i : Nat), StandsAt l p i → cutE l p = l.take i ++ l.drop (i + 1)
  | [], p, i, h => by obtain ⟨⟨e, h1, -⟩, -⟩ := h; simp at h1
  | d :: l, p, 0, h => by
    obtain ⟨⟨e, h1, h2⟩, -⟩ := h
    have h3 : d = e := by simpa using h1
    unfold cutE
    rw [if_pos (h3 ▸ h2)]
    rfl
  | d :: l, p, i + 1, h => by
    obtain ⟨⟨e, h1, h2⟩, h3⟩ := h
    have hd : d.p ≠ p := h3 d (by simp)
    have ih := cut_at l p i ⟨⟨e, by simpa using h1, h2⟩, fun x hx => h3 x (by rw [List.take_succ_cons]; exact List.mem_cons_of_mem _ hx)⟩
    unfold cutE
    rw [if_neg hd, ih]
    rfl
theorem cut_no : ∀ (l : List Ent) (p : Pf), (∀ e ∈ l, e.p ≠ p) → cutE l p = l
  | [], _, _ => rfl
  | d :: l, p, h => by
    unfold cutE
    rw [if_neg (h d List.mem_cons_self), cut_no l p (fun e he => h e (List.mem_cons_of_mem _ he))]
theorem put_at : ∀ (l : List Ent) (p : Pf) (v : Int) (i : Nat), Ord l → StandsAt l p i → putE l p v = l.set i ⟨p, v⟩
  | [], p, v, i, _, h => by obtain ⟨⟨e, h1, -⟩, -⟩ := h; simp at h1
  | d :: l, p, v, 0, _, h => by
    obtain ⟨⟨e, h1, h2⟩, -⟩ := h
    have h3 : d = e := by simpa using h1
    unfold putE
    rw [if_pos (h3 ▸ h2)]
    rfl
  | d :: l, p, v, i + 1, ho, h => by
    obtain ⟨⟨e, h1, h2⟩, h3⟩ := h
    unfold Ord at ho
    rw [List.pairwise_cons] at ho
    have hd : d.p ≠ p := h3 d (by simp)
    have he : l[i]? = some e := by simpa using h1
    have hlt : ltP d.p p := h2 ▸ ho.1 e (List.mem_of_getElem? he)
    have ih := put_at l p v i ho.2 ⟨⟨e, he, h2⟩, fun x hx => h3 x (by rw [List.take_succ_cons]; exact List.mem_cons_of_mem _ hx)⟩
    unfold putE
    rw [if_neg hd, if_pos hlt, ih]
    rfl
theorem put_in : ∀ (l : List Ent) (p : Pf) (v : Int) (i : Nat), (∀ e ∈ l, e.p ≠ p) → i ≤ l.length → (∀ e ∈ l.take i, ltP e.p p) → (∀ e, l[i]? = some e → ¬ ltP e.p p) → putE l p v = l.take i ++ ⟨p, v⟩ :: l.drop i
  | [], p, v, i, _, hi, _, _ => by
    obtain rfl : i = 0 := by simpa using hi
    rfl
  | d :: l, p, v, 0, hn, _, _, h => by
    unfold putE
    rw [if_neg (hn d List.mem_cons_self), if_neg (h d rfl)]
    rfl
  | d :: l, p, v, i + 1, hn, hi, h1, h2 => by
    have ih := put_in l p v i (fun e he => hn e (List.mem_cons_of_mem _ he)) (by simpa using hi) (fun e he => h1 e (by rw [List.take_succ_cons]; exact List.mem_cons_of_mem _ he)) (fun e he => h2 e (by simpa using he))
    unfold putE
    rw [if_neg (hn d List.mem_cons_self), if_pos (h1 d (by simp)), ih]
    rfl
theorem long_take {a : Nat} {l : List Ent} {i : Nat} {e : Ent} (h : l[i]? = some e) : longE a none (l.take (i + 1)) = (if covP e.p ⟨a, 32⟩ && shortB (longE a none (l.take i)) e.p then some e else longE a none (l.take i)) := by
  have hap : ∀ (l m : List Ent) (b : Option Ent), longE a b (l ++ m) = longE a (longE a b l) m := fun l m b => by
    induction l generalizing b with
    | nil => rfl
    | cons d l ih => exact ih _
  rw [List.take_add_one, h, Option.toList_some, hap]
  rfl
end Go.Proofs.Ytpcahgnibdampaa.Tri
namespace Go.Proofs.Ytpcahgnibdampaa.PR
open Go.RowKit Go.Sort Mem Pfx
theorem take_same {l m : List Pf} {j : Nat} {p : Pf} (h : l.take j = m.take j) (hl : l[j]? = some p) (hm : m[j]? = some p) : l.take (j + 1) = m.take (j + 1) := by
  rw [List.take_add_one, List.take_add_one, h, hl, hm]
set_option maxHeartbeats 2000000 in
theorem refSameP_any [DecidableEq Pf] (v u : Value) (l m : List Pf) (w : World) (hv : Pfxs w v l) (hu : Pfxs w u m) : Calls Try.prog 14 #[v, u] w (Tells (.bool (decide (l = m))) w) := by
  have HV := Go.Lib.hid hv
  have HU := Go.Lib.hid hu
  obtain ⟨A, c, rfl, hlc, hc⟩ := hv.form
  obtain ⟨A2, c2, rfl, hlc2, hc2⟩ := hu.form
  clear hv hu
  by_cases hlen : l.length = m.length
  case neg =>
    have y : ((l.length : Int) != (m.length : Int)) = true := by simp; omega
    have HD := Go.Lib.hid (show decide (l = m) = false from decide_eq_false (fun e => hlen (by rw [e])))
    rw [HD.out]
    clear hlen HD
    go_enter Try.func14, Try.ntmps14
    go_wp2
    go_ret
    exact ⟨rfl, Below.refl _ _⟩
  have y : ((l.length : Int) != (m.length : Int)) = false := by simp; omega
  have hml : m.length ≤ l.length ∧ l.length ≤ m.length := by omega
  clear hlen
  go_enter Try.func14, Try.ntmps14
  go_wp2
  go_loopw [5] (fun v5 wx => ∃ j : Nat, j ≤ l.length ∧ v5 = .int .i64 j ∧ Hid (l.take j = m.take j) ∧ Hid (Below w.heap.size w wx)) (fun v5 _ => l.length - (intOf v5).toNat)
  case atStart => exact ⟨0, Nat.zero_le _, rfl, Go.Lib.hid (by simp), Go.Lib.hid (Below.refl _ _)⟩
  case round =>
    obtain ⟨j, hj, rfl, ht, hb⟩ := hrel
    by_cases hlt : j < l.length
    · obtain ⟨p, hp⟩ : ∃ p, l[j]? = some p := ⟨_, List.getElem?_eq_getElem hlt⟩
      obtain ⟨q, hq⟩ : ∃ q, m[j]? = some q := ⟨_, List.getElem?_eq_getElem (by omega)⟩
      obtain ⟨b, off, rfl, hbl, k0, k1⟩ := (HV.out).at_ hp
      obtain ⟨b2, off2, rfl, hbl2, k2, k3⟩ := (HU.out).at_ hq
      have c0 := (hb.out.cell (p := ⟨b, off + j * 2, none⟩) hbl).trans k0
      have c1 := (hb.out.cell (p := ⟨b, off + j * 2 + 1, none⟩) hbl).trans k1
      have c2 := (hb.out.cell (p := ⟨b2, off2 + j * 2, none⟩) hbl2).trans k2
      have c3 := (hb.out.cell (p := ⟨b2, off2 + j * 2 + 1, none⟩) hbl2).trans k3
      have z0 : (0 : Int) ≤ (j : Int) := by omega
      have z1 : (j : Int) < (l.length : Int) := by omega
      have z2 : (j : Int) < (m.length : Int) := by omega
      by_cases hpq : p = q
      · subst hpq
        have HT := Go.Lib.hid (take_same ht.out hp hq)
        clear k0 k1 k2 k3 hp hq hbl hbl2
        go_wp2
        go_quiet (fail)
        go_wp2
        go_roundw
        case rel => exact ⟨j + 1, hlt, by go_num, HT, Go.Lib.hid (hb.out.trans ((Mem.below_drewN _ _).mono hb.out.size))⟩
        case measure => simp [intOf]; omega
      · have HD := Go.Lib.hid (show decide (l = m) = false from decide_eq_false (fun e => by rw [e, hq] at hp; injection hp with hp; exact hpq hp.symm))
        obtain ⟨pa, pn⟩ := p
        obtain ⟨qa, qn⟩ := q
        clear k0 k1 k2 k3 hp hq hbl hbl2
        dsimp only at c0 c1 c2 c3
        rw [HD.out]
        by_cases ha : pa = qa
        · have hn : ¬ pn = qn := fun e => hpq (by rw [ha, e])
          have y1 : (pn == qn) = false := by simp [hn]
          subst ha
          clear hpq hn
          go_wp2
          go_quiet (fail)
          go_wp2
          go_ret
          exact ⟨rfl, hb.out.trans ((Mem.below_drewN _ _).mono hb.out.size)⟩
        · have y1 : ((pa : Int) == (qa : Int)) = false := by simp; omega
          clear hpq ha
          go_wp2
          go_quiet (fail)
          go_wp2
          go_ret
          exact ⟨rfl, hb.out.trans ((Mem.below_drewN _ _).mono hb.out.size)⟩
    · have HJ := Go.Lib.hid (show j = l.length by omega)
      have HD := Go.Lib.hid (show decide (l = m) = true from decide_eq_true (by
        have h1 := ht.out
        have h2 := HJ.out
        rw [h2, List.take_length, List.take_of_length_le (by omega)] at h1
        exact h1))
      have z1 : decide ((j : Int) < (l.length : Int)) = false := decide_eq_false (by omega)
      go_wp2
      go_ret
      exact ⟨by rw [HD.out]; rfl, hb.out⟩
end Go.Proofs.Ytpcahgnibdampaa.PR
