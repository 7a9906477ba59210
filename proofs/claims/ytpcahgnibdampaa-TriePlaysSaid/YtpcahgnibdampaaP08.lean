/- Plain mathematics: a prefix put into a tree, and cut out of it. It speaks of no function of the program. Plain mathematics: a prefix cut out of a tree. It speaks of no function of the program. Plain mathematics: what covers a prefix in a tree, what it covers, and the longest one that has an address. It speaks of no function of the program. -/
import Derived.Test.YtpcahgnibdampaaP05
import Derived.Test.YtpcahgnibdampaaP07
namespace Go.Proofs.Ytpcahgnibdampaa.Tri
open PR Pfx
def comP (p q : Pf) : Pf := ⟨cutN p.a (comN p.a p.n.toNat q.a q.n.toNat), (comN p.a p.n.toNat q.a q.n.toNat : Nat)⟩
instance (p q : Pf) : Decidable (Cov p q) := by unfold Cov; exact inferInstance
def leaf (p : Pf) (v : Int) : Tr := .node p (some v) .nil .nil
def bitOf (p q : Pf) : Nat := bitN q.a p.n.toNat
def join (c : Pf) (x : Option Int) (i : Nat) (s t : Tr) : Tr := if i = 0 then .node c x s t else .node c x t s
def putT : Tr → Pf → Int → Tr
  | .nil, p, v => leaf p v
  | .node q x a b, p, v =>
    if p = q then .node q (some v) a b
    else if Cov q p then (if bitOf q p = 0 then .node q x (putT a p v) b else .node q x a (putT b p v))
    else if Cov p q then join p (some v) (bitOf p q) (.node q x a b) .nil
    else join (comP p q) none (bitOf (comP p q) p) (leaf p v) (.node q x a b)
def mkT (q : Pf) : Option Int → Tr → Tr → Tr
  | none, .nil, b => b
  | none, .node p x c d, .nil => .node p x c d
  | x, a, b => .node q x a b
theorem good_pf {a k : Nat} (hk : k ≤ 32) (h : cutN a k = a) : goodP ⟨a, (k : Nat)⟩ = true := by
  unfold goodP
  rw [goodB_in hk]
  exact decide_eq_true h
theorem cov_side {p q : Pf} (h : Cov p q) (hne : p ≠ q) (hq : goodP q = true) : Side p (bitOf p q) q := by
  refine ⟨?_, h.2, rfl⟩
  rcases Int.lt_or_le p.n q.n with h1 | h1
  · exact h1
  · exfalso
    have h2 : p.n = q.n := Int.le_antisymm h.1 h1
    exact hne (pf_ext (by rw [← h.2, h2, good_cut hq]) h2)
theorem bit_two (p q : Pf) : bitOf p q = 0 ∨ bitOf p q = 1 := by
  have := bitN_lt q.a p.n.toNat
  unfold bitOf
  omega
theorem com_sides {p q : Pf} (hp : goodP p = true) (hpa : p.a < 4294967296) (hq : goodP q = true) (hqa : q.a < 4294967296) (h1 : ¬ Cov p q) (h2 : ¬ Cov q p) :
    goodP (comP p q) = true ∧ (comP p q).a < 4294967296 ∧ Side (comP p q) (bitOf (comP p q) p) p ∧ Side (comP p q) (bitOf (comP p q) q) q ∧ bitOf (comP p q) p ≠ bitOf (comP p q) q := by
  have lp := good_len hp
  have lq := good_len hq
  obtain ⟨c1, c2, c3, c4⟩ := com_parts p.a p.n.toNat q.a q.n.toNat hpa hqa
  have n1 : comN p.a p.n.toNat q.a q.n.toNat < p.n.toNat := by
    rcases Nat.lt_or_ge (comN p.a p.n.toNat q.a q.n.toNat) p.n.toNat with h | h
    · exact h
    · exfalso
      have e : comN p.a p.n.toNat q.a q.n.toNat = p.n.toNat := Nat.le_antisymm c1 h
      rw [e] at c2 c4
      exact h1 ⟨by omega, by rw [← c4]; exact good_cut hp⟩
  have n2 : comN p.a p.n.toNat q.a q.n.toNat < q.n.toNat := by
    rcases Nat.lt_or_ge (comN p.a p.n.toNat q.a q.n.toNat) q.n.toNat with h | h
    · exact h
    · exfalso
      have e : comN p.a p.n.toNat q.a q.n.toNat = q.n.toNat := Nat.le_antisymm c2 h
      rw [e] at c1 c4
      exact h2 ⟨by omega, by rw [c4]; exact good_cut hq⟩
  have h5 := com_last p.a p.n.toNat q.a q.n.toNat hpa hqa (by omega) n1 n2
  unfold Side bitOf comP
  dsimp only
  generalize comN p.a p.n.toNat q.a q.n.toNat = c at c1 c2 c3 c4 n1 n2 h5
  have e : ((c : Nat) : Int).toNat = c := by omega
  rw [e]
  refine ⟨good_pf c3 (cutN_cutN _ _ _ (Nat.le_refl _) c3), Nat.lt_of_le_of_lt (cutN_le _ _) hpa, ⟨by omega, rfl, rfl⟩, ⟨by omega, c4.symm, rfl⟩, h5⟩
theorem in_join {p c : Pf} {i j : Nat} {x : Option Int} {s t : Tr} (h : Side p i c) : In p i (join c x j s t) := by
  unfold join
  split <;> exact h
theorem wf_join {c : Pf} {x : Option Int} {i j : Nat} {s t : Tr} (hc : goodP c = true ∧ c.a < 4294967296) (hx : x.isSome = true ∨ (s ≠ .nil ∧ t ≠ .nil)) (hi : i = 0 ∨ i = 1) (hs : In c i s) (ht : In c j t) (hij : t = .nil ∨ (j ≠ i ∧ (j = 0 ∨ j = 1))) (ws : WF s) (wt : WF t) : WF (join c x i s t) := by
  unfold join
  rcases hi with rfl | rfl
  · rw [if_pos rfl]
    refine ⟨hc, hx, hs, ?_, ws, wt⟩
    rcases hij with rfl | ⟨h1, h2⟩
    · trivial
    · obtain rfl : j = 1 := by omega
      exact ht
  · rw [if_neg (by decide)]
    refine ⟨hc, hx.imp_right (fun h => ⟨h.2, h.1⟩), ?_, hs, wt, ws⟩
    rcases hij with rfl | ⟨h1, h2⟩
    · trivial
    · obtain rfl : j = 0 := by omega
      exact ht
theorem wf_leaf {p : Pf} {v : Int} (h : goodP p = true ∧ p.a < 4294967296) : WF (leaf p v) := ⟨h, .inl rfl, trivial, trivial, trivial, trivial⟩
theorem put_nn (t : Tr) (p : Pf) (v : Int) : putT t p v ≠ .nil := by
  cases t with
  | nil => intro e; cases e
  | node q x a b =>
    unfold putT
    split
    · intro e; cases e
    · split
      · split <;> (intro e; cases e)
      · split
        · unfold join; split <;> (intro e; cases e)
        · unfold join; split <;> (intro e; cases e)
theorem side_com {r p q : Pf} {i : Nat} (hr : goodP r = true) (hp : goodP p = true) (hpa : p.a < 4294967296) (hq : goodP q = true) (hqa : q.a < 4294967296) (h1 : Side r i p) (h2 : Side r i q) (n1 : ¬ Cov p q) (n2 : ¬ Cov q p) : Side r i (comP p q) := by
  obtain ⟨g1, g2, s1, s2, s3⟩ := com_sides hp hpa hq hqa n1 n2
  have lr := good_len hr
  have lc := good_len g1
  have lp := good_len hp
  have lq := good_len hq
  have hlt : r.n < (comP p q).n := by
    rcases Int.lt_or_le r.n (comP p q).n with h | h
    · exact h
    · exfalso
      have hlt1 := h1.1
      have hlt2 := h2.1
      -- both have the same bits up to r's length and one more
      have e1 := cut_next p.a r.n.toNat (by omega)
      have e2 := cut_next q.a r.n.toNat (by omega)
      rw [h1.2.1, h1.2.2] at e1
      rw [h2.2.1, h2.2.2] at e2
      have e3 : cutN p.a (r.n.toNat + 1) = cutN q.a (r.n.toNat + 1) := e1.trans e2.symm
      have b1 := bit_cut p.a (r.n.toNat + 1) (comP p q).n.toNat (by omega) (by omega)
      have b2 := bit_cut q.a (r.n.toNat + 1) (comP p q).n.toNat (by omega) (by omega)
      rw [e3] at b1
      exact s3 (show bitN p.a (comP p q).n.toNat = bitN q.a (comP p q).n.toNat from b1.symm.trans b2)
  refine ⟨hlt, ?_, ?_⟩
  · have h := cutN_cutN p.a (comP p q).n.toNat r.n.toNat (by omega) (by omega)
    rw [s1.2.1, h1.2.1] at h
    exact h
  · have h := bit_cut p.a (comP p q).n.toNat r.n.toNat (by omega) (by omega)
    rw [s1.2.1, h1.2.2] at h
    exact h
theorem put_wf : ∀ (t : Tr) (p : Pf) (v : Int), WF t → goodP p = true ∧ p.a < 4294967296 → WF (putT t p v) ∧ ∀ (r : Pf) (i : Nat), goodP r = true → Side r i p → In r i t → In r i (putT t p v)
  | .nil, p, v, _, hp => ⟨wf_leaf hp, fun _ _ _ h _ => h⟩
  | .node q x a b, p, v, hw, hp => by
    have hw0 := hw
    obtain ⟨hq, hx, ia, ib, wa, wb⟩ := hw
    unfold putT
    split
    · exact ⟨⟨hq, .inl rfl, ia, ib, wa, wb⟩, fun r i _ _ h => h⟩
    · rename_i hne
      split
      · rename_i hc
        have hs := cov_side hc (fun e => hne e.symm) hp.1
        split
        · rename_i hb
          rw [hb] at hs
          obtain ⟨w1, k1⟩ := put_wf a p v wa hp
          exact ⟨⟨hq, hx.imp_right (fun h => ⟨put_nn a p v, h.2⟩), k1 q 0 hq.1 hs ia, ib, w1, wb⟩, fun r i _ _ h => h⟩
        · rename_i hb
          rw [(bit_two q p).resolve_left hb] at hs
          obtain ⟨w1, k1⟩ := put_wf b p v wb hp
          exact ⟨⟨hq, hx.imp_right (fun h => ⟨h.1, put_nn b p v⟩), ia, k1 q 1 hq.1 hs ib, wa, w1⟩, fun r i _ _ h => h⟩
      · rename_i hnc
        split
        · rename_i hc
          have hs := cov_side hc hne hq.1
          exact ⟨wf_join hp (.inl rfl) (bit_two p q) hs (j := 0) trivial (.inl rfl) hw0 trivial, fun r i _ h _ => in_join h⟩
        · rename_i hnd
          obtain ⟨g1, g2, s1, s2, s3⟩ := com_sides hp.1 hp.2 hq.1 hq.2 hnd hnc
          refine ⟨wf_join ⟨g1, g2⟩ (.inr ⟨(fun e => by cases e), (fun e => by cases e)⟩) (bit_two _ _) s1 (j := bitOf (comP p q) q) s2 (.inr ⟨fun e => s3 e.symm, bit_two _ _⟩) (wf_leaf hp) hw0, fun r i hr h1 h2 => in_join (side_com hr hp.1 hp.2 hq.1 hq.2 h1 h2 hnd hnc)⟩
theorem ents_ext : ∀ (l m : List Ent), Ord l → Ord m → (∀ e, e ∈ l ↔ e ∈ m) → l = m
  | [], [], _, _, _ => rfl
  | [], e :: m, _, _, h => by have := (h e).2 List.mem_cons_self; cases this
  | e :: l, [], _, _, h => by have := (h e).1 List.mem_cons_self; cases this
  | d :: l, e :: m, h1, h2, h => by
    unfold Ord at h1 h2
    rw [List.pairwise_cons] at h1 h2
    have e1 : d = e := by
      rcases List.mem_cons.1 ((h d).1 List.mem_cons_self) with e1 | hp
      · exact e1
      · rcases List.mem_cons.1 ((h e).2 List.mem_cons_self) with e1 | hq
        · exact e1.symm
        · exact absurd (h1.1 e hq) (lt_asymm (h2.1 d hp))
    subst e1
    rw [ents_ext l m h1.2 h2.2 (fun x => ?_)]
    constructor
    · intro hx
      rcases List.mem_cons.1 ((h x).1 (List.mem_cons_of_mem _ hx)) with e1 | hm
      · exact absurd (h1.1 x hx) (e1 ▸ lt_irrefl _)
      · exact hm
    · intro hx
      rcases List.mem_cons.1 ((h x).2 (List.mem_cons_of_mem _ hx)) with e1 | hm
      · exact absurd (h2.1 x hx) (e1 ▸ lt_irrefl _)
      · exact hm
theorem mem_putE : ∀ (l : List Ent) (p : Pf) (v : Int) (e : Ent), Ord l → (e ∈ putE l p v ↔ e = ⟨p, v⟩ ∨ (e ∈ l ∧ e.p ≠ p))
  | [], p, v, e, _ => by simp [putE]
  | d :: l, p, v, e, h => by
    unfold Ord at h
    rw [List.pairwise_cons] at h
    have ih := mem_putE l p v e h.2
    unfold putE
    split
    · rename_i hd
      have hn : e ∈ l → e.p ≠ p := fun he e2 => lt_irrefl p (by have := h.1 e he; rwa [hd, e2] at this)
      simp only [List.mem_cons]
      constructor
      · rintro (h1 | h1)
        · exact .inl h1
        · exact .inr ⟨.inr h1, hn h1⟩
      · rintro (h1 | ⟨h1 | h1, h2⟩)
        · exact .inl h1
        · exact absurd (h1 ▸ hd) h2
        · exact .inr h1
    · rename_i hd
      split
      · simp only [List.mem_cons, ih]
        constructor
        · rintro (h1 | h1 | ⟨h1, h2⟩)
          · exact .inr ⟨.inl h1, h1 ▸ hd⟩
          · exact .inl h1
          · exact .inr ⟨.inr h1, h2⟩
        · rintro (h1 | ⟨h1 | h1, h2⟩)
          · exact .inr (.inl h1)
          · exact .inl h1
          · exact .inr (.inr ⟨h1, h2⟩)
      · rename_i hl
        have hlt : ltP p d.p := ((lt_tri d.p p).resolve_left hl).resolve_left hd
        have hn : e ∈ l → e.p ≠ p := fun he e2 => lt_asymm hlt (e2 ▸ h.1 e he)
        simp only [List.mem_cons]
        constructor
        · rintro (h1 | h1 | h1)
          · exact .inl h1
          · exact .inr ⟨.inl h1, h1 ▸ hd⟩
          · exact .inr ⟨.inr h1, hn h1⟩
        · rintro (h1 | ⟨h1, -⟩)
          · exact .inl h1
          · exact .inr h1
theorem mem_topE {q : Pf} {x : Option Int} {e : Ent} : e ∈ topE q x ↔ e.p = q ∧ x = some e.v := by
  obtain ⟨ep, ev⟩ := e
  cases x with
  | none => simp [topE]
  | some y => simp only [topE, List.mem_singleton, Ent.mk.injEq, Option.some.injEq]; exact ⟨fun ⟨h1, h2⟩ => ⟨h1, h2.symm⟩, fun ⟨h1, h2⟩ => ⟨h1, h2.symm⟩⟩
theorem mem_node {q : Pf} {x : Option Int} {a b : Tr} {e : Ent} : e ∈ ents (.node q x a b) ↔ (e.p = q ∧ x = some e.v) ∨ e ∈ ents a ∨ e ∈ ents b := by
  show e ∈ topE q x ++ (ents a ++ ents b) ↔ _
  rw [List.mem_append, List.mem_append, mem_topE]
theorem mem_join {c : Pf} {x : Option Int} {i : Nat} {s t : Tr} {e : Ent} : e ∈ ents (join c x i s t) ↔ (e.p = c ∧ x = some e.v) ∨ e ∈ ents s ∨ e ∈ ents t := by
  unfold join
  split
  · exact mem_node
  · rw [mem_node]; constructor <;> (rintro (h | h | h) <;> simp [h])
theorem ent_eq {e : Ent} {p : Pf} {v : Int} : e = ⟨p, v⟩ ↔ e.p = p ∧ some v = some e.v := by
  obtain ⟨ep, ev⟩ := e
  simp only [Ent.mk.injEq, Option.some.injEq]
  exact ⟨fun ⟨h1, h2⟩ => ⟨h1, h2.symm⟩, fun ⟨h1, h2⟩ => ⟨h1, h2.symm⟩⟩
theorem not_cov_of {q p : Pf} (h : Cov q p) (hne : q ≠ p) (hp : goodP p = true) : ¬ Cov p q := fun h2 => hne (pf_ext (by
  have e : q.n = p.n := Int.le_antisymm h.1 h2.1
  have := h.2
  rw [e, good_cut hp] at this
  exact this.symm) (Int.le_antisymm h.1 h2.1))
theorem mem_putT : ∀ (t : Tr) (p : Pf) (v : Int) (e : Ent), WF t → goodP p = true ∧ p.a < 4294967296 → (e ∈ ents (putT t p v) ↔ e = ⟨p, v⟩ ∨ (e ∈ ents t ∧ e.p ≠ p))
  | .nil, p, v, e, _, _ => by
    have h : e ∈ ents (leaf p v) ↔ _ := mem_node
    show e ∈ ents (leaf p v) ↔ _
    rw [h, ent_eq]
    simp [ents]
  | .node q x a b, p, v, e, hw, hp => by
    have hcov := root_cov hw
    obtain ⟨hq, hx, ia, ib, wa, wb⟩ := hw
    have ka := in_keys a q 0 hq.1 wa ia
    have kb := in_keys b q 1 hq.1 wb ib
    have iha := mem_putT a p v e wa hp
    have ihb := mem_putT b p v e wb hp
    unfold putT
    split
    · rename_i he
      subst he
      have na : e ∈ ents a → e.p ≠ p := fun h e2 => Int.lt_irrefl _ (e2 ▸ (ka e.p (key_mem h)).1)
      have nb : e ∈ ents b → e.p ≠ p := fun h e2 => Int.lt_irrefl _ (e2 ▸ (kb e.p (key_mem h)).1)
      rw [mem_node, mem_node, ent_eq]
      constructor
      · rintro (h | h | h)
        · exact .inl h
        · exact .inr ⟨.inr (.inl h), na h⟩
        · exact .inr ⟨.inr (.inr h), nb h⟩
      · rintro (h | ⟨h | h | h, h2⟩)
        · exact .inl h
        · exact absurd h.1 h2
        · exact .inr (.inl h)
        · exact .inr (.inr h)
    · rename_i hne
      split
      · rename_i hc
        have hs := cov_side hc (fun e2 => hne e2.symm) hp.1
        split
        · rename_i hb
          rw [hb] at hs
          have nb : e ∈ ents b → e.p ≠ p := fun h e2 => by
            have := (kb e.p (key_mem h)).2.2
            rw [e2, hs.2.2] at this
            cases this
          rw [mem_node, mem_node, iha]
          constructor
          · rintro (h | (h | ⟨h, h2⟩) | h)
            · exact .inr ⟨.inl h, fun e2 => hne (e2 ▸ h.1)⟩
            · exact .inl h
            · exact .inr ⟨.inr (.inl h), h2⟩
            · exact .inr ⟨.inr (.inr h), nb h⟩
          · rintro (h | ⟨h | h | h, h2⟩)
            · exact .inr (.inl (.inl h))
            · exact .inl h
            · exact .inr (.inl (.inr ⟨h, h2⟩))
            · exact .inr (.inr h)
        · rename_i hb
          rw [(bit_two q p).resolve_left hb] at hs
          have na : e ∈ ents a → e.p ≠ p := fun h e2 => by
            have := (ka e.p (key_mem h)).2.2
            rw [e2, hs.2.2] at this
            cases this
          rw [mem_node, mem_node, ihb]
          constructor
          · rintro (h | h | h | ⟨h, h2⟩)
            · exact .inr ⟨.inl h, fun e2 => hne (e2 ▸ h.1)⟩
            · exact .inr ⟨.inr (.inl h), na h⟩
            · exact .inl h
            · exact .inr ⟨.inr (.inr h), h2⟩
          · rintro (h | ⟨h | h | h, h2⟩)
            · exact .inr (.inr (.inl h))
            · exact .inl h
            · exact .inr (.inl h)
            · exact .inr (.inr (.inr ⟨h, h2⟩))
      · rename_i hnc
        have nk : e ∈ ents (.node q x a b) → e.p ≠ p := fun h e2 => hnc (e2 ▸ hcov e.p (key_mem h))
        split
        · rw [mem_join, ent_eq]
          have hz : e ∈ ents Tr.nil ↔ False := by simp [ents]
          rw [hz]
          constructor
          · rintro (h | h | h)
            · exact .inl h
            · exact .inr ⟨h, nk h⟩
            · exact h.elim
          · rintro (h | ⟨h, -⟩)
            · exact .inl h
            · exact .inr (.inl h)
        · rw [mem_join]
          have hl : e ∈ ents (leaf p v) ↔ e = ⟨p, v⟩ := by
            have h : e ∈ ents (leaf p v) ↔ _ := mem_node
            rw [h, ent_eq]
            simp [ents]
          rw [hl]
          constructor
          · rintro (h | h | h)
            · cases h.2
            · exact .inl h
            · exact .inr ⟨h, nk h⟩
          · rintro (h | ⟨h, -⟩)
            · exact .inr (.inl h)
            · exact .inr (.inr h)
theorem ents_put (t : Tr) (p : Pf) (v : Int) (hw : WF t) (hp : goodP p = true ∧ p.a < 4294967296) : ents (putT t p v) = putE (ents t) p v :=
  ents_ext _ _ (ents_ord _ (put_wf t p v hw hp).1) (ord_put _ _ _ (ents_ord t hw)) (fun e => by rw [mem_putT t p v e hw hp, mem_putE _ _ _ _ (ents_ord t hw)])
end Go.Proofs.Ytpcahgnibdampaa.Tri
namespace Go.Proofs.Ytpcahgnibdampaa.Tri
open PR Pfx
def cutT : Tr → Pf → Tr
  | .nil, _ => .nil
  | .node q x a b, p => if p = q then mkT q none a b else if Cov q p then (if bitOf q p = 0 then mkT q x (cutT a p) b else mkT q x a (cutT b p)) else .node q x a b
theorem mem_mkT {q : Pf} {x : Option Int} {a b : Tr} {e : Ent} : e ∈ ents (mkT q x a b) ↔ (e.p = q ∧ x = some e.v) ∨ e ∈ ents a ∨ e ∈ ents b := by
  have hz : e ∈ ents Tr.nil ↔ False := by simp [ents]
  match x, a, b with
  | some y, a, b => exact mem_node
  | none, .nil, b =>
    show e ∈ ents b ↔ _
    rw [hz]
    simp
  | none, .node p y c d, .nil =>
    show e ∈ ents (.node p y c d) ↔ _
    rw [hz]
    simp
  | none, .node p y c d, .node p2 y2 c2 d2 => exact mem_node
theorem wf_mkT {q : Pf} {x : Option Int} {a b : Tr} (hq : goodP q = true ∧ q.a < 4294967296) (ia : In q 0 a) (ib : In q 1 b) (wa : WF a) (wb : WF b) : WF (mkT q x a b) ∧ ∀ (r : Pf) (i : Nat), goodP r = true → Side r i q → In r i (mkT q x a b) := by
  match x, a, b, ia, ib, wa, wb with
  | some y, a, b, ia, ib, wa, wb => exact ⟨⟨hq, .inl rfl, ia, ib, wa, wb⟩, fun r i _ h => h⟩
  | none, .nil, .nil, ia, ib, wa, wb => exact ⟨trivial, fun _ _ _ _ => trivial⟩
  | none, .nil, .node p y c d, ia, ib, wa, wb => exact ⟨wb, fun r i hr h => side_trans hr hq.1 h ib⟩
  | none, .node p y c d, .nil, ia, ib, wa, wb => exact ⟨wa, fun r i hr h => side_trans hr hq.1 h ia⟩
  | none, .node p y c d, .node p2 y2 c2 d2, ia, ib, wa, wb => exact ⟨⟨hq, .inr ⟨(fun e => by cases e), (fun e => by cases e)⟩, ia, ib, wa, wb⟩, fun r i _ h => h⟩
theorem cut_wf : ∀ (t : Tr) (p : Pf), WF t → WF (cutT t p) ∧ ∀ (r : Pf) (i : Nat), goodP r = true → In r i t → In r i (cutT t p)
  | .nil, _, _ => ⟨trivial, fun _ _ _ _ => trivial⟩
  | .node q x a b, p, hw => by
    have hw0 := hw
    obtain ⟨hq, -, ia, ib, wa, wb⟩ := hw
    unfold cutT
    split
    · exact ⟨(wf_mkT hq ia ib wa wb).1, fun r i hr h => (wf_mkT hq ia ib wa wb).2 r i hr h⟩
    · split
      · split
        · obtain ⟨w1, k1⟩ := cut_wf a p wa
          exact ⟨(wf_mkT hq (k1 q 0 hq.1 ia) ib w1 wb).1, fun r i hr h => (wf_mkT hq (k1 q 0 hq.1 ia) ib w1 wb).2 r i hr h⟩
        · obtain ⟨w1, k1⟩ := cut_wf b p wb
          exact ⟨(wf_mkT hq ia (k1 q 1 hq.1 ib) wa w1).1, fun r i hr h => (wf_mkT hq ia (k1 q 1 hq.1 ib) wa w1).2 r i hr h⟩
      · exact ⟨hw0, fun r i _ h => h⟩
theorem mem_cutE : ∀ (l : List Ent) (p : Pf) (e : Ent), Ord l → (e ∈ cutE l p ↔ e ∈ l ∧ e.p ≠ p)
  | [], p, e, _ => by simp [cutE]
  | d :: l, p, e, h => by
    unfold Ord at h
    rw [List.pairwise_cons] at h
    have ih := mem_cutE l p e h.2
    unfold cutE
    split
    · rename_i hd
      have hn : e ∈ l → e.p ≠ p := fun he e2 => lt_irrefl p (by have := h.1 e he; rwa [hd, e2] at this)
      simp only [List.mem_cons]
      constructor
      · exact fun h1 => ⟨.inr h1, hn h1⟩
      · rintro ⟨h1 | h1, h2⟩
        · exact absurd (h1 ▸ hd) h2
        · exact h1
    · rename_i hd
      simp only [List.mem_cons, ih]
      constructor
      · rintro (h1 | ⟨h1, h2⟩)
        · exact ⟨.inl h1, h1 ▸ hd⟩
        · exact ⟨.inr h1, h2⟩
      · rintro ⟨h1 | h1, h2⟩
        · exact .inl h1
        · exact .inr ⟨h1, h2⟩
theorem mem_cutT : ∀ (t : Tr) (p : Pf) (e : Ent), WF t → (e ∈ ents (cutT t p) ↔ e ∈ ents t ∧ e.p ≠ p)
  | .nil, p, e, _ => by simp [cutT, ents]
  | .node q x a b, p, e, hw => by
    have hcov := root_cov hw
    obtain ⟨hq, hx, ia, ib, wa, wb⟩ := hw
    have ka := in_keys a q 0 hq.1 wa ia
    have kb := in_keys b q 1 hq.1 wb ib
    have iha := mem_cutT a p e wa
    have ihb := mem_cutT b p e wb
    unfold cutT
    split
    · rename_i he
      subst he
      have na : e ∈ ents a → e.p ≠ p := fun h e2 => Int.lt_irrefl _ (e2 ▸ (ka e.p (key_mem h)).1)
      have nb : e ∈ ents b → e.p ≠ p := fun h e2 => Int.lt_irrefl _ (e2 ▸ (kb e.p (key_mem h)).1)
      rw [mem_mkT, mem_node]
      constructor
      · rintro (h | h | h)
        · cases h.2
        · exact ⟨.inr (.inl h), na h⟩
        · exact ⟨.inr (.inr h), nb h⟩
      · rintro ⟨h | h | h, h2⟩
        · exact absurd h.1 h2
        · exact .inr (.inl h)
        · exact .inr (.inr h)
    · rename_i hne
      split
      · split
        · rename_i hb
          have nb : e ∈ ents b → e.p ≠ p := fun h e2 => by
            have := (kb e.p (key_mem h)).2.2
            rw [e2] at this
            unfold bitOf at hb
            rw [hb] at this
            cases this
          rw [mem_mkT, mem_node, iha]
          constructor
          · rintro (h | ⟨h, h2⟩ | h)
            · exact ⟨.inl h, fun e2 => hne (e2 ▸ h.1)⟩
            · exact ⟨.inr (.inl h), h2⟩
            · exact ⟨.inr (.inr h), nb h⟩
          · rintro ⟨h | h | h, h2⟩
            · exact .inl h
            · exact .inr (.inl ⟨h, h2⟩)
            · exact .inr (.inr h)
        · rename_i hb
          have na : e ∈ ents a → e.p ≠ p := fun h e2 => by
            have := (ka e.p (key_mem h)).2.2
            rw [e2] at this
            unfold bitOf at hb
            exact hb this
          rw [mem_mkT, mem_node, ihb]
          constructor
          · rintro (h | h | ⟨h, h2⟩)
            · exact ⟨.inl h, fun e2 => hne (e2 ▸ h.1)⟩
            · exact ⟨.inr (.inl h), na h⟩
            · exact ⟨.inr (.inr h), h2⟩
          · rintro ⟨h | h | h, h2⟩
            · exact .inl h
            · exact .inr (.inl h)
            · exact .inr (.inr ⟨h, h2⟩)
      · rename_i hnc
        exact ⟨fun h => ⟨h, fun e2 => hnc (e2 ▸ hcov e.p (key_mem h))⟩, fun h => h.1⟩
theorem ents_cut (t : Tr) (p : Pf) (hw : WF t) : ents (cutT t p) = cutE (ents t) p :=
  ents_ext _ _ (ents_ord _ (cut_wf t p hw).1) (ord_cut _ _ (ents_ord t hw)) (fun e => by rw [mem_cutT t p e hw, mem_cutE _ _ _ (ents_ord t hw)])
def getT : Tr → Pf → Option Int
  | .nil, _ => none
  | .node q x a b, p => if p = q then x else if Cov q p then (if bitOf q p = 0 then getT a p else getT b p) else none
theorem find_mem {l : List Ent} {p : Pf} (h : Ord l) {v : Int} : getE l p = some v ↔ (⟨p, v⟩ : Ent) ∈ l := by
  unfold getE
  rw [Option.map_eq_some_iff]
  constructor
  · rintro ⟨e, h1, h2⟩
    have h3 := List.find?_some h1
    have h4 := List.mem_of_find?_eq_some h1
    have e1 : e = ⟨p, v⟩ := ent_eq.2 ⟨of_decide_eq_true h3, by rw [h2]⟩
    exact e1 ▸ h4
  · intro hm
    cases hf : l.find? (fun e => decide (e.p = p)) with
    | none => exact absurd (decide_eq_true rfl) (List.find?_eq_none.1 hf ⟨p, v⟩ hm)
    | some e =>
      refine ⟨e, rfl, ?_⟩
      have h5 := List.find?_some hf
      have h3 : e.p = p := of_decide_eq_true h5
      have h4 := List.mem_of_find?_eq_some hf
      by_cases he : e = ⟨p, v⟩
      · rw [he]
      · exfalso
        have : ∀ {m : List Ent}, Ord m → ∀ x ∈ m, ∀ y ∈ m, x.p = y.p → x = y := fun {m} hm x hx y hy hxy => by
          induction m with
          | nil => cases hx
          | cons d m ih =>
            unfold Ord at hm
            rw [List.pairwise_cons] at hm
            rcases List.mem_cons.1 hx with e1 | hx2
            · rcases List.mem_cons.1 hy with e2 | hy2
              · rw [e1, e2]
              · have h7 := hm.1 y hy2
                rw [← e1, hxy] at h7
                exact absurd h7 (lt_irrefl _)
            · rcases List.mem_cons.1 hy with e2 | hy2
              · have h7 := hm.1 x hx2
                rw [← e2, hxy] at h7
                exact absurd h7 (lt_irrefl _)
              · exact ih hm.2 hx2 hy2
        exact he (this h e h4 ⟨p, v⟩ hm h3)
theorem mem_getT : ∀ (t : Tr) (p : Pf) (v : Int), WF t → (getT t p = some v ↔ (⟨p, v⟩ : Ent) ∈ ents t)
  | .nil, p, v, _ => by simp [getT, ents]
  | .node q x a b, p, v, hw => by
    have hcov := root_cov hw
    obtain ⟨hq, hx, ia, ib, wa, wb⟩ := hw
    have ka := in_keys a q 0 hq.1 wa ia
    have kb := in_keys b q 1 hq.1 wb ib
    have iha := mem_getT a p v wa
    have ihb := mem_getT b p v wb
    unfold getT
    rw [mem_node]
    split
    · rename_i he
      subst he
      have na : (⟨p, v⟩ : Ent) ∉ ents a := fun h => Int.lt_irrefl _ (ka p (key_mem h)).1
      have nb : (⟨p, v⟩ : Ent) ∉ ents b := fun h => Int.lt_irrefl _ (kb p (key_mem h)).1
      exact ⟨fun h => .inl ⟨rfl, h⟩, fun h => h.elim (fun h => h.2) (fun h => h.elim (fun h => absurd h na) (fun h => absurd h nb))⟩
    · rename_i hne
      split
      · split
        · rename_i hb
          have nb : (⟨p, v⟩ : Ent) ∉ ents b := fun h => by
            have := (kb p (key_mem h)).2.2
            unfold bitOf at hb
            rw [hb] at this
            cases this
          rw [iha]
          exact ⟨fun h => .inr (.inl h), fun h => h.elim (fun h => absurd h.1 hne) (fun h => h.elim id (fun h => absurd h nb))⟩
        · rename_i hb
          have na : (⟨p, v⟩ : Ent) ∉ ents a := fun h => hb (ka p (key_mem h)).2.2
          rw [ihb]
          exact ⟨fun h => .inr (.inr h), fun h => h.elim (fun h => absurd h.1 hne) (fun h => h.elim (fun h => absurd h na) id)⟩
      · rename_i hnc
        constructor
        · intro h; cases h
        · intro h
          exfalso
          rw [← mem_node (q := q)] at h
          exact hnc (hcov p (key_mem h))
theorem get_ents (t : Tr) (p : Pf) (hw : WF t) : getT t p = getE (ents t) p := by
  have h : ∀ v, getT t p = some v ↔ getE (ents t) p = some v := fun v => by rw [mem_getT t p v hw, find_mem (ents_ord t hw)]
  cases h1 : getT t p with
  | some v => exact ((h v).1 h1).symm
  | none =>
    cases h2 : getE (ents t) p with
    | none => rfl
    | some v => rw [(h v).2 h2] at h1; cases h1
end Go.Proofs.Ytpcahgnibdampaa.Tri
namespace Go.Proofs.Ytpcahgnibdampaa.Tri
open PR Pfx
theorem cov_is {p q : Pf} (hp : goodP p = true) (hq : goodP q = true) : covP p q = decide (Cov p q) := by
  unfold covP coversB hasB
  unfold goodP at hp hq
  rw [hp, hq, Bool.true_and, Bool.true_and, ← Bool.decide_and]
  exact decide_eq_decide.2 Iff.rfl
theorem cov_trans {p q r : Pf} (hp : goodP p = true) (hq : goodP q = true) (h : Cov p q) (h2 : Cov q r) : Cov p r := by
  have l1 := good_len hp
  have l2 := good_len hq
  refine ⟨Int.le_trans h.1 h2.1, ?_⟩
  rw [← cutN_cutN r.a q.n.toNat p.n.toNat (by have := h.1; omega) (by omega), h2.2, h.2]
theorem cov_bit {q e p : Pf} (hq : goodP q = true) (he : goodP e = true) (h : q.n < e.n) (h2 : Cov e p) : bitOf q p = bitOf q e := by
  have l1 := good_len hq
  have l2 := good_len he
  unfold bitOf
  rw [← h2.2, bit_cut p.a e.n.toNat q.n.toNat (by omega) (by omega)]
theorem cov_self {p : Pf} (h : goodP p = true) : Cov p p := ⟨Int.le_refl _, good_cut h⟩
theorem cov_anti {p q : Pf} (hq : goodP q = true) (h : Cov p q) (h2 : Cov q p) : p = q := by
  by_cases e : p = q
  · exact e
  · exact absurd h2 (not_cov_of h e hq)
def aboveT : Tr → Pf → List Pf
  | .nil, _ => []
  | .node q x a b, p => if q ≠ p ∧ Cov q p then keys (topE q x) ++ (if bitOf q p = 0 then aboveT a p else aboveT b p) else []
theorem above_app (l m : List Ent) (p : Pf) : aboveE (l ++ m) p = aboveE l p ++ aboveE m p := by unfold aboveE; rw [List.filter_append, List.map_append]
theorem above_nil {l : List Ent} {p : Pf} (h : ∀ e ∈ l, e.p ≠ p → covP e.p p = false) : aboveE l p = [] := by
  unfold aboveE
  rw [List.map_eq_nil_iff, List.filter_eq_nil_iff]
  intro e he h2
  simp only [Bool.and_eq_true, decide_eq_true_eq] at h2
  rw [h e he h2.1] at h2
  cases h2.2
theorem above_top {q p : Pf} {x : Option Int} (hne : q ≠ p) (h : covP q p = true) : aboveE (topE q x) p = keys (topE q x) := by
  cases x with
  | none => rfl
  | some y => simp [aboveE, topE, keys, hne, h]
theorem above_is : ∀ (t : Tr) (p : Pf), WF t → goodP p = true → aboveT t p = aboveE (ents t) p
  | .nil, _, _, _ => rfl
  | .node q x a b, p, hw, hp => by
    have hcov := root_cov hw
    have hgood := ents_good _ hw
    obtain ⟨hq, hx, ia, ib, wa, wb⟩ := hw
    have ka := in_keys a q 0 hq.1 wa ia
    have kb := in_keys b q 1 hq.1 wb ib
    unfold aboveT
    split
    · rename_i h
      show _ = aboveE (topE q x ++ (ents a ++ ents b)) p
      rw [above_app, above_app, above_top h.1 (by rw [cov_is hq.1 hp]; exact decide_eq_true h.2), above_is a p wa hp, above_is b p wb hp]
      congr 1
      split
      · rename_i hb
        rw [above_nil (l := ents b), List.append_nil]
        intro e he _
        have hs := kb e.p (key_mem he)
        have ge := (ents_good b wb e.p (key_mem he)).1
        rw [cov_is ge hp]
        refine decide_eq_false (fun hc => ?_)
        have h1 := cov_bit hq.1 ge hs.1 hc
        have h2 : bitOf q e.p = 1 := hs.2.2
        omega
      · rename_i hb
        rw [above_nil (l := ents a), List.nil_append]
        intro e he _
        have hs := ka e.p (key_mem he)
        have ge := (ents_good a wa e.p (key_mem he)).1
        rw [cov_is ge hp]
        refine decide_eq_false (fun hc => ?_)
        have h1 := cov_bit hq.1 ge hs.1 hc
        have h2 : bitOf q e.p = 0 := hs.2.2
        omega
    · rename_i h
      rw [above_nil]
      intro e he hne
      have ge := (hgood e.p (key_mem he)).1
      rw [cov_is ge hp]
      refine decide_eq_false (fun hc => ?_)
      have hqe := hcov e.p (key_mem he)
      have hqp := cov_trans hq.1 ge hqe hc
      by_cases e1 : q = p
      · exact hne (cov_anti hp hc (e1 ▸ hqe))
      · exact h ⟨e1, hqp⟩
def subT : Tr → Pf → Tr
  | .nil, _ => .nil
  | .node q x a b, p => if Cov p q then .node q x a b else if Cov q p then (if bitOf q p = 0 then subT a p else subT b p) else .nil
theorem cov_two {p q e : Pf} (hp : goodP p = true) (hq : goodP q = true) (he : goodP e = true) (h : Cov p e) (h2 : Cov q e) : Cov p q ∨ Cov q p := by
  have l1 := good_len hp
  have l2 := good_len hq
  have l3 := good_len he
  rcases Int.le_total p.n q.n with hle | hle
  · exact .inl ⟨hle, by rw [← h2.2, cutN_cutN e.a q.n.toNat p.n.toNat (by omega) (by omega), h.2]⟩
  · exact .inr ⟨hle, by rw [← h.2, cutN_cutN e.a p.n.toNat q.n.toNat (by omega) (by omega), h2.2]⟩
theorem filter_all {l : List Ent} {f : Ent → Bool} (h : ∀ e ∈ l, f e = true) : l.filter f = l := List.filter_eq_self.2 h
theorem sub_ents : ∀ (t : Tr) (p : Pf), WF t → goodP p = true → ents (subT t p) = (ents t).filter (fun e => covP p e.p)
  | .nil, _, _, _ => rfl
  | .node q x a b, p, hw, hp => by
    have hcov := root_cov hw
    have hgood := ents_good _ hw
    obtain ⟨hq, hx, ia, ib, wa, wb⟩ := hw
    have ka := in_keys a q 0 hq.1 wa ia
    have kb := in_keys b q 1 hq.1 wb ib
    unfold subT
    split
    · rename_i h
      rw [filter_all]
      intro e he
      rw [cov_is hp (hgood e.p (key_mem he)).1]
      exact decide_eq_true (cov_trans hp hq.1 h (hcov e.p (key_mem he)))
    · rename_i h
      split
      · rename_i hc
        have ht : (topE q x).filter (fun e => covP p e.p) = [] := by
          rw [List.filter_eq_nil_iff]
          intro e he
          rw [(mem_topE.1 he).1, cov_is hp hq.1, decide_eq_false h]
          decide
        have hlt : q.n < p.n := by
          rcases Int.lt_or_le q.n p.n with h1 | h1
          · exact h1
          · exact absurd (cov_self hp) (fun _ => h ((pf_ext (p := p) (q := q) (by
              have e : q.n = p.n := Int.le_antisymm hc.1 h1
              have := hc.2
              rw [e, good_cut hp] at this
              exact this) (Int.le_antisymm h1 hc.1)) ▸ cov_self hp))
        show _ = (topE q x ++ (ents a ++ ents b)).filter _
        rw [List.filter_append, List.filter_append, ht, List.nil_append]
        split
        · rename_i hb
          rw [sub_ents a p wa hp]
          have hz : (ents b).filter (fun e => covP p e.p) = [] := by
            rw [List.filter_eq_nil_iff]
            intro e he h2
            have hs := kb e.p (key_mem he)
            have ge := (ents_good b wb e.p (key_mem he)).1
            rw [cov_is hp ge] at h2
            have h1 := cov_bit hq.1 hp hlt (of_decide_eq_true h2)
            have h3 : bitOf q e.p = 1 := hs.2.2
            omega
          rw [hz, List.append_nil]
        · rename_i hb
          rw [sub_ents b p wb hp]
          have hz : (ents a).filter (fun e => covP p e.p) = [] := by
            rw [List.filter_eq_nil_iff]
            intro e he h2
            have hs := ka e.p (key_mem he)
            have ge := (ents_good a wa e.p (key_mem he)).1
            rw [cov_is hp ge] at h2
            have h1 := cov_bit hq.1 hp hlt (of_decide_eq_true h2)
            have h3 : bitOf q e.p = 0 := hs.2.2
            omega
          rw [hz, List.nil_append]
      · rename_i hc
        symm
        rw [show ents Tr.nil = [] from rfl, List.filter_eq_nil_iff]
        intro e he h2
        have ge := (hgood e.p (key_mem he)).1
        rw [cov_is hp ge] at h2
        exact (cov_two hp hq.1 ge (of_decide_eq_true h2) (hcov e.p (key_mem he))).elim h hc
def addrP (a : Nat) : Pf := ⟨a, 32⟩
theorem good_addr (a : Nat) : goodP (addrP a) = true := good_pf (k := 32) (Nat.le_refl _) (cutN_32 a)
def pickE (q : Pf) (x : Option Int) (b : Option Ent) : Option Ent := match x with
  | none => b
  | some y => some ⟨q, y⟩
def longT : Tr → Nat → Option Ent → Option Ent
  | .nil, _, b => b
  | .node q x s t, a, b => if Cov q (addrP a) then (if bitOf q (addrP a) = 0 then longT s a (pickE q x b) else longT t a (pickE q x b)) else b
theorem long_app : ∀ (a : Nat) (l m : List Ent) (b : Option Ent), longE a b (l ++ m) = longE a (longE a b l) m
  | _, [], _, _ => rfl
  | a, e :: l, m, b => by
    show longE a _ (l ++ m) = _
    rw [long_app a l m]
    rfl
theorem long_none : ∀ (a : Nat) (l : List Ent) (b : Option Ent), (∀ e ∈ l, covP e.p (addrP a) = false) → longE a b l = b
  | _, [], _, _ => rfl
  | a, e :: l, b, h => by
    show longE a (if covP e.p (addrP a) && _ then some e else b) l = b
    rw [h e List.mem_cons_self]
    exact long_none a l b (fun x hx => h x (List.mem_cons_of_mem _ hx))
theorem long_is : ∀ (t : Tr) (a : Nat) (b : Option Ent), WF t → (∀ e, b = some e → ∀ k ∈ keys (ents t), e.p.n < k.n) → longE a b (ents t) = longT t a b
  | .nil, _, _, _, _ => rfl
  | .node q x s t, a, b, hw, hb => by
    have hcov := root_cov hw
    have hgood := ents_good _ hw
    obtain ⟨hq, hx, ia, ib, wa, wb⟩ := hw
    have ka := in_keys s q 0 hq.1 wa ia
    have kb := in_keys t q 1 hq.1 wb ib
    have ga := good_addr a
    unfold longT
    split
    · rename_i hc
      have htop : longE a b (topE q x) = pickE q x b := by
        cases x with
        | none => rfl
        | some y =>
          show (if covP q (addrP a) && shortB b q then some (⟨q, y⟩ : Ent) else b) = some ⟨q, y⟩
          rw [cov_is hq.1 ga, decide_eq_true hc, Bool.true_and]
          cases b with
          | none => rfl
          | some z =>
            have := hb z rfl q (by simp [ents, topE, keys])
            show (if decide (z.p.n < q.n) = true then _ else _) = _
            rw [decide_eq_true this]; rfl
      have hsub : ∀ (u : Tr) (i : Nat), (∀ k ∈ keys (ents u), Side q i k) → (∀ k ∈ keys (ents u), k ∈ keys (ents (.node q x s t))) → ∀ e, pickE q x b = some e → ∀ k ∈ keys (ents u), e.p.n < k.n := fun u i hu hin e he k hk => by
        cases x with
        | none => exact hb e he k (hin k hk)
        | some y =>
          have he2 : (⟨q, y⟩ : Ent) = e := Option.some.inj he
          rw [← he2]
          exact (hu k hk).1
      have e0 : ents (.node q x s t) = topE q x ++ (ents s ++ ents t) := rfl
      have i1 : ∀ k ∈ keys (ents s), k ∈ keys (ents (.node q x s t)) := fun k hk => by
        rw [e0]
        simp only [keys, List.map_append, List.mem_append]
        exact .inr (.inl hk)
      have i2 : ∀ k ∈ keys (ents t), k ∈ keys (ents (.node q x s t)) := fun k hk => by
        rw [e0]
        simp only [keys, List.map_append, List.mem_append]
        exact .inr (.inr hk)
      rw [e0, long_app, long_app, htop]
      split
      · rename_i hbit
        rw [long_is s a _ wa (hsub s 0 ka i1), long_none]
        intro e he
        have hs := kb e.p (key_mem he)
        have ge := (ents_good t wb e.p (key_mem he)).1
        rw [cov_is ge ga]
        refine decide_eq_false (fun hc2 => ?_)
        have h1 := cov_bit hq.1 ge hs.1 hc2
        have h2 : bitOf q e.p = 1 := hs.2.2
        omega
      · rename_i hbit
        rw [long_none a (ents s), long_is t a _ wb (hsub t 1 kb i2)]
        intro e he
        have hs := ka e.p (key_mem he)
        have ge := (ents_good s wa e.p (key_mem he)).1
        rw [cov_is ge ga]
        refine decide_eq_false (fun hc2 => ?_)
        have h1 := cov_bit hq.1 ge hs.1 hc2
        have h2 : bitOf q e.p = 0 := hs.2.2
        omega
    · rename_i hc
      refine long_none a _ b (fun e he => ?_)
      have ge := (hgood e.p (key_mem he)).1
      rw [cov_is ge ga]
      exact decide_eq_false (fun hc2 => hc (cov_trans hq.1 ge (hcov e.p (key_mem he)) hc2))
end Go.Proofs.Ytpcahgnibdampaa.Tri
