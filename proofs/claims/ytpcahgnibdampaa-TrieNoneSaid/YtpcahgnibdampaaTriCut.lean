/- Plain mathematics: a prefix cut out of a tree. It speaks of no function of the program. -/
import Derived.Test.YtpcahgnibdampaaTriPut
namespace Go.Proofs.Ytpcahgnibdampaa.Tri
open PR Pfx

def cutT : Tr → Pf → Tr
  | .nil, _ => .nil
  | .node q x a b, p => if p = q then mkT q none a b else if Cov q p then (if bitOf q p = 0 then mkT q x (cutT a p) b else mkT q x a (cutT b p)) else .node q x a b
theorem mem_mkT {q : Pf} {x : Option Int} {a b : Tr} {e : Ent} : e ∈ ents (mkT q x a b) ↔ (e.p = q ∧ x = some e.v) ∨ e ∈ ents a ∨ e ∈ ents b := by
  have hz : e ∈ ents Tr.nil ↔ False := by simp [ents]
  match x, a, b with
  | some y, a, b => exact mem_node
  | none, .nil, b =>
    show e ∈ ents b ↔ _
    rw [hz]
    simp
  | none, .node p y c d, .nil =>
    show e ∈ ents (.node p y c d) ↔ _
    rw [hz]
    simp
  | none, .node p y c d, .node p2 y2 c2 d2 => exact mem_node
theorem wf_mkT {q : Pf} {x : Option Int} {a b : Tr} (hq : goodP q = true ∧ q.a < 4294967296) (ia : In q 0 a) (ib : In q 1 b) (wa : WF a) (wb : WF b) : WF (mkT q x a b) ∧ ∀ (r : Pf) (i : Nat), goodP r = true → Side r i q → In r i (mkT q x a b) := by
  match x, a, b, ia, ib, wa, wb with
  | some y, a, b, ia, ib, wa, wb => exact ⟨⟨hq, .inl rfl, ia, ib, wa, wb⟩, fun r i _ h => h⟩
  | none, .nil, .nil, ia, ib, wa, wb => exact ⟨trivial, fun _ _ _ _ => trivial⟩
  | none, .nil, .node p y c d, ia, ib, wa, wb => exact ⟨wb, fun r i hr h => side_trans hr hq.1 h ib⟩
  | none, .node p y c d, .nil, ia, ib, wa, wb => exact ⟨wa, fun r i hr h => side_trans hr hq.1 h ia⟩
  | none, .node p y c d, .node p2 y2 c2 d2, ia, ib, wa, wb => exact ⟨⟨hq, .inr ⟨(fun e => by cases e), (fun e => by cases e)⟩, ia, ib, wa, wb⟩, fun r i _ h => h⟩
theorem cut_wf : ∀ (t : Tr) (p : Pf), WF t → WF (cutT t p) ∧ ∀ (r : Pf) (i : Nat), goodP r = true → In r i t → In r i (cutT t p)
  | .nil, _, _ => ⟨trivial, fun _ _ _ _ => trivial⟩
  | .node q x a b, p, hw => by
    have hw0 := hw
    obtain ⟨hq, -, ia, ib, wa, wb⟩ := hw
    unfold cutT
    split
    · exact ⟨(wf_mkT hq ia ib wa wb).1, fun r i hr h => (wf_mkT hq ia ib wa wb).2 r i hr h⟩
    · split
      · split
        · obtain ⟨w1, k1⟩ := cut_wf a p wa
          exact ⟨(wf_mkT hq (k1 q 0 hq.1 ia) ib w1 wb).1, fun r i hr h => (wf_mkT hq (k1 q 0 hq.1 ia) ib w1 wb).2 r i hr h⟩
        · obtain ⟨w1, k1⟩ := cut_wf b p wb
          exact ⟨(wf_mkT hq ia (k1 q 1 hq.1 ib) wa w1).1, fun r i hr h => (wf_mkT hq ia (k1 q 1 hq.1 ib) wa w1).2 r i hr h⟩
      · exact ⟨hw0, fun r i _ h => h⟩
theorem mem_cutE : ∀ (l : List Ent) (p : Pf) (e : Ent), Ord l → (e ∈ cutE l p ↔ e ∈ l ∧ e.p ≠ p)
  | [], p, e, _ => by simp [cutE]
  | d :: l, p, e, h => by
    unfold Ord at h
    rw [List.pairwise_cons] at h
    have ih := mem_cutE l p e h.2
    unfold cutE
    split
    · rename_i hd
      have hn : e ∈ l → e.p ≠ p := fun he e2 => lt_irrefl p (by have := h.1 e he; rwa [hd, e2] at this)
      simp only [List.mem_cons]
      constructor
      · exact fun h1 => ⟨.inr h1, hn h1⟩
      · rintro ⟨h1 | h1, h2⟩
        · exact absurd (h1 ▸ hd) h2
        · exact h1
    · rename_i hd
      simp only [List.mem_cons, ih]
      constructor
      · rintro (h1 | ⟨h1, h2⟩)
        · exact ⟨.inl h1, h1 ▸ hd⟩
        · exact ⟨.inr h1, h2⟩
      · rintro ⟨h1 | h1, h2⟩
        · exact .inl h1
        · exact .inr ⟨h1, h2⟩
theorem mem_cutT : ∀ (t : Tr) (p : Pf) (e : Ent), WF t → (e ∈ ents (cutT t p) ↔ e ∈ ents t ∧ e.p ≠ p)
  | .nil, p, e, _ => by simp [cutT, ents]
  | .node q x a b, p, e, hw => by
    have hcov := root_cov hw
    obtain ⟨hq, hx, ia, ib, wa, wb⟩ := hw
    have ka := in_keys a q 0 hq.1 wa ia
    have kb := in_keys b q 1 hq.1 wb ib
    have iha := mem_cutT a p e wa
    have ihb := mem_cutT b p e wb
    unfold cutT
    split
    · rename_i he
      subst he
      have na : e ∈ ents a → e.p ≠ p := fun h e2 => Int.lt_irrefl _ (e2 ▸ (ka e.p (key_mem h)).1)
      have nb : e ∈ ents b → e.p ≠ p := fun h e2 => Int.lt_irrefl _ (e2 ▸ (kb e.p (key_mem h)).1)
      rw [mem_mkT, mem_node]
      constructor
      · rintro (h | h | h)
        · cases h.2
        · exact ⟨.inr (.inl h), na h⟩
        · exact ⟨.inr (.inr h), nb h⟩
      · rintro ⟨h | h | h, h2⟩
        · exact absurd h.1 h2
        · exact .inr (.inl h)
        · exact .inr (.inr h)
    · rename_i hne
      split
      · split
        · rename_i hb
          have nb : e ∈ ents b → e.p ≠ p := fun h e2 => by
            have := (kb e.p (key_mem h)).2.2
            rw [e2] at this
            unfold bitOf at hb
            rw [hb] at this
            cases this
          rw [mem_mkT, mem_node, iha]
          constructor
          · rintro (h | ⟨h, h2⟩ | h)
            · exact ⟨.inl h, fun e2 => hne (e2 ▸ h.1)⟩
            · exact ⟨.inr (.inl h), h2⟩
            · exact ⟨.inr (.inr h), nb h⟩
          · rintro ⟨h | h | h, h2⟩
            · exact .inl h
            · exact .inr (.inl ⟨h, h2⟩)
            · exact .inr (.inr h)
        · rename_i hb
          have na : e ∈ ents a → e.p ≠ p := fun h e2 => by
            have := (ka e.p (key_mem h)).2.2
            rw [e2] at this
            unfold bitOf at hb
            exact hb this
          rw [mem_mkT, mem_node, ihb]
          constructor
          · rintro (h | h | ⟨h, h2⟩)
            · exact ⟨.inl h, fun e2 => hne (e2 ▸ h.1)⟩
            · exact ⟨.inr (.inl h), na h⟩
            · exact ⟨.inr (.inr h), h2⟩
          · rintro ⟨h | h | h, h2⟩
            · exact .inl h
            · exact .inr (.inl h)
            · exact .inr (.inr ⟨h, h2⟩)
      · rename_i hnc
        exact ⟨fun h => ⟨h, fun e2 => hnc (e2 ▸ hcov e.p (key_mem h))⟩, fun h => h.1⟩
/-- A prefix cut out of a tree is cut out of its rows. -/
theorem ents_cut (t : Tr) (p : Pf) (hw : WF t) : ents (cutT t p) = cutE (ents t) p :=
  ents_ext _ _ (ents_ord _ (cut_wf t p hw).1) (ord_cut _ _ (ents_ord t hw)) (fun e => by rw [mem_cutT t p e hw, mem_cutE _ _ _ (ents_ord t hw)])
/-- What a tree tells of a prefix. -/
def getT : Tr → Pf → Option Int
  | .nil, _ => none
  | .node q x a b, p => if p = q then x else if Cov q p then (if bitOf q p = 0 then getT a p else getT b p) else none
theorem find_mem {l : List Ent} {p : Pf} (h : Ord l) {v : Int} : getE l p = some v ↔ (⟨p, v⟩ : Ent) ∈ l := by
  unfold getE
  rw [Option.map_eq_some_iff]
  constructor
  · rintro ⟨e, h1, h2⟩
    have h3 := List.find?_some h1
    have h4 := List.mem_of_find?_eq_some h1
    have e1 : e = ⟨p, v⟩ := ent_eq.2 ⟨of_decide_eq_true h3, by rw [h2]⟩
    exact e1 ▸ h4
  · intro hm
    cases hf : l.find? (fun e => decide (e.p = p)) with
    | none => exact absurd (decide_eq_true rfl) (List.find?_eq_none.1 hf ⟨p, v⟩ hm)
    | some e =>
      refine ⟨e, rfl, ?_⟩
      have h5 := List.find?_some hf
      have h3 : e.p = p := of_decide_eq_true h5
      have h4 := List.mem_of_find?_eq_some hf
      by_cases he : e = ⟨p, v⟩
      · rw [he]
      · exfalso
        have : ∀ {m : List Ent}, Ord m → ∀ x ∈ m, ∀ y ∈ m, x.p = y.p → x = y := fun {m} hm x hx y hy hxy => by
          induction m with
          | nil => cases hx
          | cons d m ih =>
            unfold Ord at hm
            rw [List.pairwise_cons] at hm
            rcases List.mem_cons.1 hx with e1 | hx2
            · rcases List.mem_cons.1 hy with e2 | hy2
              · rw [e1, e2]
              · have h7 := hm.1 y hy2
                rw [← e1, hxy] at h7
                exact absurd h7 (lt_irrefl _)
            · rcases List.mem_cons.1 hy with e2 | hy2
              · have h7 := hm.1 x hx2
                rw [← e2, hxy] at h7
                exact absurd h7 (lt_irrefl _)
              · exact ih hm.2 hx2 hy2
        exact he (this h e h4 ⟨p, v⟩ hm h3)
theorem mem_getT : ∀ (t : Tr) (p : Pf) (v : Int), WF t → (getT t p = some v ↔ (⟨p, v⟩ : Ent) ∈ ents t)
  | .nil, p, v, _ => by simp [getT, ents]
  | .node q x a b, p, v, hw => by
    have hcov := root_cov hw
    obtain ⟨hq, hx, ia, ib, wa, wb⟩ := hw
    have ka := in_keys a q 0 hq.1 wa ia
    have kb := in_keys b q 1 hq.1 wb ib
    have iha := mem_getT a p v wa
    have ihb := mem_getT b p v wb
    unfold getT
    rw [mem_node]
    split
    · rename_i he
      subst he
      have na : (⟨p, v⟩ : Ent) ∉ ents a := fun h => Int.lt_irrefl _ (ka p (key_mem h)).1
      have nb : (⟨p, v⟩ : Ent) ∉ ents b := fun h => Int.lt_irrefl _ (kb p (key_mem h)).1
      exact ⟨fun h => .inl ⟨rfl, h⟩, fun h => h.elim (fun h => h.2) (fun h => h.elim (fun h => absurd h na) (fun h => absurd h nb))⟩
    · rename_i hne
      split
      · split
        · rename_i hb
          have nb : (⟨p, v⟩ : Ent) ∉ ents b := fun h => by
            have := (kb p (key_mem h)).2.2
            unfold bitOf at hb
            rw [hb] at this
            cases this
          rw [iha]
          exact ⟨fun h => .inr (.inl h), fun h => h.elim (fun h => absurd h.1 hne) (fun h => h.elim id (fun h => absurd h nb))⟩
        · rename_i hb
          have na : (⟨p, v⟩ : Ent) ∉ ents a := fun h => hb (ka p (key_mem h)).2.2
          rw [ihb]
          exact ⟨fun h => .inr (.inr h), fun h => h.elim (fun h => absurd h.1 hne) (fun h => h.elim (fun h => absurd h na) id)⟩
      · rename_i hnc
        constructor
        · intro h; cases h
        · intro h
          exfalso
          rw [← mem_node (q := q)] at h
          exact hnc (hcov p (key_mem h))
theorem get_ents (t : Tr) (p : Pf) (hw : WF t) : getT t p = getE (ents t) p := by
  have h : ∀ v, getT t p = some v ↔ getE (ents t) p = some v := fun v => by rw [mem_getT t p v hw, find_mem (ents_ord t hw)]
  cases h1 : getT t p with
  | some v => exact ((h v).1 h1).symm
  | none =>
    cases h2 : getE (ents t) p with
    | none => rfl
    | some v => rw [(h v).2 h2] at h1; cases h1
end Go.Proofs.Ytpcahgnibdampaa.Tri
