/- Plain mathematics: a prefix put into a tree, and cut out of it. It speaks of no function of the program. -/
import Derived.Test.YtpcahgnibdampaaTriTree
import Derived.Test.YtpcahgnibdampaaPfxComM
namespace Go.Proofs.Ytpcahgnibdampaa.Tri
open PR Pfx

/-- What two prefixes have in common. -/
def comP (p q : Pf) : Pf := ⟨cutN p.a (comN p.a p.n.toNat q.a q.n.toNat), (comN p.a p.n.toNat q.a q.n.toNat : Nat)⟩
instance (p q : Pf) : Decidable (Cov p q) := by unfold Cov; exact inferInstance
def leaf (p : Pf) (v : Int) : Tr := .node p (some v) .nil .nil
def bitOf (p q : Pf) : Nat := bitN q.a p.n.toNat
/-- Two trees side by side: on which side the first one stands. -/
def join (c : Pf) (x : Option Int) (i : Nat) (s t : Tr) : Tr := if i = 0 then .node c x s t else .node c x t s
def putT : Tr → Pf → Int → Tr
  | .nil, p, v => leaf p v
  | .node q x a b, p, v =>
    if p = q then .node q (some v) a b
    else if Cov q p then (if bitOf q p = 0 then .node q x (putT a p v) b else .node q x a (putT b p v))
    else if Cov p q then join p (some v) (bitOf p q) (.node q x a b) .nil
    else join (comP p q) none (bitOf (comP p q) p) (leaf p v) (.node q x a b)
/-- A node that may be idle. -/
def mkT (q : Pf) : Option Int → Tr → Tr → Tr
  | none, .nil, b => b
  | none, .node p x c d, .nil => .node p x c d
  | x, a, b => .node q x a b
theorem good_pf {a k : Nat} (hk : k ≤ 32) (h : cutN a k = a) : goodP ⟨a, (k : Nat)⟩ = true := by
  unfold goodP
  rw [goodB_in hk]
  exact decide_eq_true h
theorem cov_side {p q : Pf} (h : Cov p q) (hne : p ≠ q) (hq : goodP q = true) : Side p (bitOf p q) q := by
  refine ⟨?_, h.2, rfl⟩
  rcases Int.lt_or_le p.n q.n with h1 | h1
  · exact h1
  · exfalso
    have h2 : p.n = q.n := Int.le_antisymm h.1 h1
    exact hne (pf_ext (by rw [← h.2, h2, good_cut hq]) h2)
theorem bit_two (p q : Pf) : bitOf p q = 0 ∨ bitOf p q = 1 := by
  have := bitN_lt q.a p.n.toNat
  unfold bitOf
  omega
/-- Two prefixes of which none covers the other one lie on unlike sides of what they have in common. -/
theorem com_sides {p q : Pf} (hp : goodP p = true) (hpa : p.a < 4294967296) (hq : goodP q = true) (hqa : q.a < 4294967296) (h1 : ¬ Cov p q) (h2 : ¬ Cov q p) :
    goodP (comP p q) = true ∧ (comP p q).a < 4294967296 ∧ Side (comP p q) (bitOf (comP p q) p) p ∧ Side (comP p q) (bitOf (comP p q) q) q ∧ bitOf (comP p q) p ≠ bitOf (comP p q) q := by
  have lp := good_len hp
  have lq := good_len hq
  obtain ⟨c1, c2, c3, c4⟩ := com_parts p.a p.n.toNat q.a q.n.toNat hpa hqa
  have n1 : comN p.a p.n.toNat q.a q.n.toNat < p.n.toNat := by
    rcases Nat.lt_or_ge (comN p.a p.n.toNat q.a q.n.toNat) p.n.toNat with h | h
    · exact h
    · exfalso
      have e : comN p.a p.n.toNat q.a q.n.toNat = p.n.toNat := Nat.le_antisymm c1 h
      rw [e] at c2 c4
      exact h1 ⟨by omega, by rw [← c4]; exact good_cut hp⟩
  have n2 : comN p.a p.n.toNat q.a q.n.toNat < q.n.toNat := by
    rcases Nat.lt_or_ge (comN p.a p.n.toNat q.a q.n.toNat) q.n.toNat with h | h
    · exact h
    · exfalso
      have e : comN p.a p.n.toNat q.a q.n.toNat = q.n.toNat := Nat.le_antisymm c2 h
      rw [e] at c1 c4
      exact h2 ⟨by omega, by rw [c4]; exact good_cut hq⟩
  have h5 := com_last p.a p.n.toNat q.a q.n.toNat hpa hqa (by omega) n1 n2
  unfold Side bitOf comP
  dsimp only
  generalize comN p.a p.n.toNat q.a q.n.toNat = c at c1 c2 c3 c4 n1 n2 h5
  have e : ((c : Nat) : Int).toNat = c := by omega
  rw [e]
  refine ⟨good_pf c3 (cutN_cutN _ _ _ (Nat.le_refl _) c3), Nat.lt_of_le_of_lt (cutN_le _ _) hpa, ⟨by omega, rfl, rfl⟩, ⟨by omega, c4.symm, rfl⟩, h5⟩
theorem in_join {p c : Pf} {i j : Nat} {x : Option Int} {s t : Tr} (h : Side p i c) : In p i (join c x j s t) := by
  unfold join
  split <;> exact h
theorem wf_join {c : Pf} {x : Option Int} {i j : Nat} {s t : Tr} (hc : goodP c = true ∧ c.a < 4294967296) (hx : x.isSome = true ∨ (s ≠ .nil ∧ t ≠ .nil)) (hi : i = 0 ∨ i = 1) (hs : In c i s) (ht : In c j t) (hij : t = .nil ∨ (j ≠ i ∧ (j = 0 ∨ j = 1))) (ws : WF s) (wt : WF t) : WF (join c x i s t) := by
  unfold join
  rcases hi with rfl | rfl
  · rw [if_pos rfl]
    refine ⟨hc, hx, hs, ?_, ws, wt⟩
    rcases hij with rfl | ⟨h1, h2⟩
    · trivial
    · obtain rfl : j = 1 := by omega
      exact ht
  · rw [if_neg (by decide)]
    refine ⟨hc, hx.imp_right (fun h => ⟨h.2, h.1⟩), ?_, hs, wt, ws⟩
    rcases hij with rfl | ⟨h1, h2⟩
    · trivial
    · obtain rfl : j = 0 := by omega
      exact ht
theorem wf_leaf {p : Pf} {v : Int} (h : goodP p = true ∧ p.a < 4294967296) : WF (leaf p v) := ⟨h, .inl rfl, trivial, trivial, trivial, trivial⟩
theorem put_nn (t : Tr) (p : Pf) (v : Int) : putT t p v ≠ .nil := by
  cases t with
  | nil => intro e; cases e
  | node q x a b =>
    unfold putT
    split
    · intro e; cases e
    · split
      · split <;> (intro e; cases e)
      · split
        · unfold join; split <;> (intro e; cases e)
        · unfold join; split <;> (intro e; cases e)
theorem side_com {r p q : Pf} {i : Nat} (hr : goodP r = true) (hp : goodP p = true) (hpa : p.a < 4294967296) (hq : goodP q = true) (hqa : q.a < 4294967296) (h1 : Side r i p) (h2 : Side r i q) (n1 : ¬ Cov p q) (n2 : ¬ Cov q p) : Side r i (comP p q) := by
  obtain ⟨g1, g2, s1, s2, s3⟩ := com_sides hp hpa hq hqa n1 n2
  have lr := good_len hr
  have lc := good_len g1
  have lp := good_len hp
  have lq := good_len hq
  have hlt : r.n < (comP p q).n := by
    rcases Int.lt_or_le r.n (comP p q).n with h | h
    · exact h
    · exfalso
      have hlt1 := h1.1
      have hlt2 := h2.1
      -- both have the same bits up to r's length and one more
      have e1 := cut_next p.a r.n.toNat (by omega)
      have e2 := cut_next q.a r.n.toNat (by omega)
      rw [h1.2.1, h1.2.2] at e1
      rw [h2.2.1, h2.2.2] at e2
      have e3 : cutN p.a (r.n.toNat + 1) = cutN q.a (r.n.toNat + 1) := e1.trans e2.symm
      have b1 := bit_cut p.a (r.n.toNat + 1) (comP p q).n.toNat (by omega) (by omega)
      have b2 := bit_cut q.a (r.n.toNat + 1) (comP p q).n.toNat (by omega) (by omega)
      rw [e3] at b1
      exact s3 (show bitN p.a (comP p q).n.toNat = bitN q.a (comP p q).n.toNat from b1.symm.trans b2)
  refine ⟨hlt, ?_, ?_⟩
  · have h := cutN_cutN p.a (comP p q).n.toNat r.n.toNat (by omega) (by omega)
    rw [s1.2.1, h1.2.1] at h
    exact h
  · have h := bit_cut p.a (comP p q).n.toNat r.n.toNat (by omega) (by omega)
    rw [s1.2.1, h1.2.2] at h
    exact h
theorem put_wf : ∀ (t : Tr) (p : Pf) (v : Int), WF t → goodP p = true ∧ p.a < 4294967296 → WF (putT t p v) ∧ ∀ (r : Pf) (i : Nat), goodP r = true → Side r i p → In r i t → In r i (putT t p v)
  | .nil, p, v, _, hp => ⟨wf_leaf hp, fun _ _ _ h _ => h⟩
  | .node q x a b, p, v, hw, hp => by
    have hw0 := hw
    obtain ⟨hq, hx, ia, ib, wa, wb⟩ := hw
    unfold putT
    split
    · exact ⟨⟨hq, .inl rfl, ia, ib, wa, wb⟩, fun r i _ _ h => h⟩
    · rename_i hne
      split
      · rename_i hc
        have hs := cov_side hc (fun e => hne e.symm) hp.1
        split
        · rename_i hb
          rw [hb] at hs
          obtain ⟨w1, k1⟩ := put_wf a p v wa hp
          exact ⟨⟨hq, hx.imp_right (fun h => ⟨put_nn a p v, h.2⟩), k1 q 0 hq.1 hs ia, ib, w1, wb⟩, fun r i _ _ h => h⟩
        · rename_i hb
          rw [(bit_two q p).resolve_left hb] at hs
          obtain ⟨w1, k1⟩ := put_wf b p v wb hp
          exact ⟨⟨hq, hx.imp_right (fun h => ⟨h.1, put_nn b p v⟩), ia, k1 q 1 hq.1 hs ib, wa, w1⟩, fun r i _ _ h => h⟩
      · rename_i hnc
        split
        · rename_i hc
          have hs := cov_side hc hne hq.1
          exact ⟨wf_join hp (.inl rfl) (bit_two p q) hs (j := 0) trivial (.inl rfl) hw0 trivial, fun r i _ h _ => in_join h⟩
        · rename_i hnd
          obtain ⟨g1, g2, s1, s2, s3⟩ := com_sides hp.1 hp.2 hq.1 hq.2 hnd hnc
          refine ⟨wf_join ⟨g1, g2⟩ (.inr ⟨(fun e => by cases e), (fun e => by cases e)⟩) (bit_two _ _) s1 (j := bitOf (comP p q) q) s2 (.inr ⟨fun e => s3 e.symm, bit_two _ _⟩) (wf_leaf hp) hw0, fun r i hr h1 h2 => in_join (side_com hr hp.1 hp.2 hq.1 hq.2 h1 h2 hnd hnc)⟩
/-- Rows in order that hold the same are the same. -/
theorem ents_ext : ∀ (l m : List Ent), Ord l → Ord m → (∀ e, e ∈ l ↔ e ∈ m) → l = m
  | [], [], _, _, _ => rfl
  | [], e :: m, _, _, h => by have := (h e).2 List.mem_cons_self; cases this
  | e :: l, [], _, _, h => by have := (h e).1 List.mem_cons_self; cases this
  | d :: l, e :: m, h1, h2, h => by
    unfold Ord at h1 h2
    rw [List.pairwise_cons] at h1 h2
    have e1 : d = e := by
      rcases List.mem_cons.1 ((h d).1 List.mem_cons_self) with e1 | hp
      · exact e1
      · rcases List.mem_cons.1 ((h e).2 List.mem_cons_self) with e1 | hq
        · exact e1.symm
        · exact absurd (h1.1 e hq) (lt_asymm (h2.1 d hp))
    subst e1
    rw [ents_ext l m h1.2 h2.2 (fun x => ?_)]
    constructor
    · intro hx
      rcases List.mem_cons.1 ((h x).1 (List.mem_cons_of_mem _ hx)) with e1 | hm
      · exact absurd (h1.1 x hx) (e1 ▸ lt_irrefl _)
      · exact hm
    · intro hx
      rcases List.mem_cons.1 ((h x).2 (List.mem_cons_of_mem _ hx)) with e1 | hm
      · exact absurd (h2.1 x hx) (e1 ▸ lt_irrefl _)
      · exact hm
theorem mem_putE : ∀ (l : List Ent) (p : Pf) (v : Int) (e : Ent), Ord l → (e ∈ putE l p v ↔ e = ⟨p, v⟩ ∨ (e ∈ l ∧ e.p ≠ p))
  | [], p, v, e, _ => by simp [putE]
  | d :: l, p, v, e, h => by
    unfold Ord at h
    rw [List.pairwise_cons] at h
    have ih := mem_putE l p v e h.2
    unfold putE
    split
    · rename_i hd
      have hn : e ∈ l → e.p ≠ p := fun he e2 => lt_irrefl p (by have := h.1 e he; rwa [hd, e2] at this)
      simp only [List.mem_cons]
      constructor
      · rintro (h1 | h1)
        · exact .inl h1
        · exact .inr ⟨.inr h1, hn h1⟩
      · rintro (h1 | ⟨h1 | h1, h2⟩)
        · exact .inl h1
        · exact absurd (h1 ▸ hd) h2
        · exact .inr h1
    · rename_i hd
      split
      · simp only [List.mem_cons, ih]
        constructor
        · rintro (h1 | h1 | ⟨h1, h2⟩)
          · exact .inr ⟨.inl h1, h1 ▸ hd⟩
          · exact .inl h1
          · exact .inr ⟨.inr h1, h2⟩
        · rintro (h1 | ⟨h1 | h1, h2⟩)
          · exact .inr (.inl h1)
          · exact .inl h1
          · exact .inr (.inr ⟨h1, h2⟩)
      · rename_i hl
        have hlt : ltP p d.p := ((lt_tri d.p p).resolve_left hl).resolve_left hd
        have hn : e ∈ l → e.p ≠ p := fun he e2 => lt_asymm hlt (e2 ▸ h.1 e he)
        simp only [List.mem_cons]
        constructor
        · rintro (h1 | h1 | h1)
          · exact .inl h1
          · exact .inr ⟨.inl h1, h1 ▸ hd⟩
          · exact .inr ⟨.inr h1, hn h1⟩
        · rintro (h1 | ⟨h1, -⟩)
          · exact .inl h1
          · exact .inr h1
theorem mem_topE {q : Pf} {x : Option Int} {e : Ent} : e ∈ topE q x ↔ e.p = q ∧ x = some e.v := by
  obtain ⟨ep, ev⟩ := e
  cases x with
  | none => simp [topE]
  | some y => simp only [topE, List.mem_singleton, Ent.mk.injEq, Option.some.injEq]; exact ⟨fun ⟨h1, h2⟩ => ⟨h1, h2.symm⟩, fun ⟨h1, h2⟩ => ⟨h1, h2.symm⟩⟩
theorem mem_node {q : Pf} {x : Option Int} {a b : Tr} {e : Ent} : e ∈ ents (.node q x a b) ↔ (e.p = q ∧ x = some e.v) ∨ e ∈ ents a ∨ e ∈ ents b := by
  show e ∈ topE q x ++ (ents a ++ ents b) ↔ _
  rw [List.mem_append, List.mem_append, mem_topE]
theorem mem_join {c : Pf} {x : Option Int} {i : Nat} {s t : Tr} {e : Ent} : e ∈ ents (join c x i s t) ↔ (e.p = c ∧ x = some e.v) ∨ e ∈ ents s ∨ e ∈ ents t := by
  unfold join
  split
  · exact mem_node
  · rw [mem_node]; constructor <;> (rintro (h | h | h) <;> simp [h])
theorem ent_eq {e : Ent} {p : Pf} {v : Int} : e = ⟨p, v⟩ ↔ e.p = p ∧ some v = some e.v := by
  obtain ⟨ep, ev⟩ := e
  simp only [Ent.mk.injEq, Option.some.injEq]
  exact ⟨fun ⟨h1, h2⟩ => ⟨h1, h2.symm⟩, fun ⟨h1, h2⟩ => ⟨h1, h2.symm⟩⟩
theorem not_cov_of {q p : Pf} (h : Cov q p) (hne : q ≠ p) (hp : goodP p = true) : ¬ Cov p q := fun h2 => hne (pf_ext (by
  have e : q.n = p.n := Int.le_antisymm h.1 h2.1
  have := h.2
  rw [e, good_cut hp] at this
  exact this.symm) (Int.le_antisymm h.1 h2.1))
theorem mem_putT : ∀ (t : Tr) (p : Pf) (v : Int) (e : Ent), WF t → goodP p = true ∧ p.a < 4294967296 → (e ∈ ents (putT t p v) ↔ e = ⟨p, v⟩ ∨ (e ∈ ents t ∧ e.p ≠ p))
  | .nil, p, v, e, _, _ => by
    have h : e ∈ ents (leaf p v) ↔ _ := mem_node
    show e ∈ ents (leaf p v) ↔ _
    rw [h, ent_eq]
    simp [ents]
  | .node q x a b, p, v, e, hw, hp => by
    have hcov := root_cov hw
    obtain ⟨hq, hx, ia, ib, wa, wb⟩ := hw
    have ka := in_keys a q 0 hq.1 wa ia
    have kb := in_keys b q 1 hq.1 wb ib
    have iha := mem_putT a p v e wa hp
    have ihb := mem_putT b p v e wb hp
    unfold putT
    split
    · rename_i he
      subst he
      have na : e ∈ ents a → e.p ≠ p := fun h e2 => Int.lt_irrefl _ (e2 ▸ (ka e.p (key_mem h)).1)
      have nb : e ∈ ents b → e.p ≠ p := fun h e2 => Int.lt_irrefl _ (e2 ▸ (kb e.p (key_mem h)).1)
      rw [mem_node, mem_node, ent_eq]
      constructor
      · rintro (h | h | h)
        · exact .inl h
        · exact .inr ⟨.inr (.inl h), na h⟩
        · exact .inr ⟨.inr (.inr h), nb h⟩
      · rintro (h | ⟨h | h | h, h2⟩)
        · exact .inl h
        · exact absurd h.1 h2
        · exact .inr (.inl h)
        · exact .inr (.inr h)
    · rename_i hne
      split
      · rename_i hc
        have hs := cov_side hc (fun e2 => hne e2.symm) hp.1
        split
        · rename_i hb
          rw [hb] at hs
          have nb : e ∈ ents b → e.p ≠ p := fun h e2 => by
            have := (kb e.p (key_mem h)).2.2
            rw [e2, hs.2.2] at this
            cases this
          rw [mem_node, mem_node, iha]
          constructor
          · rintro (h | (h | ⟨h, h2⟩) | h)
            · exact .inr ⟨.inl h, fun e2 => hne (e2 ▸ h.1)⟩
            · exact .inl h
            · exact .inr ⟨.inr (.inl h), h2⟩
            · exact .inr ⟨.inr (.inr h), nb h⟩
          · rintro (h | ⟨h | h | h, h2⟩)
            · exact .inr (.inl (.inl h))
            · exact .inl h
            · exact .inr (.inl (.inr ⟨h, h2⟩))
            · exact .inr (.inr h)
        · rename_i hb
          rw [(bit_two q p).resolve_left hb] at hs
          have na : e ∈ ents a → e.p ≠ p := fun h e2 => by
            have := (ka e.p (key_mem h)).2.2
            rw [e2, hs.2.2] at this
            cases this
          rw [mem_node, mem_node, ihb]
          constructor
          · rintro (h | h | h | ⟨h, h2⟩)
            · exact .inr ⟨.inl h, fun e2 => hne (e2 ▸ h.1)⟩
            · exact .inr ⟨.inr (.inl h), na h⟩
            · exact .inl h
            · exact .inr ⟨.inr (.inr h), h2⟩
          · rintro (h | ⟨h | h | h, h2⟩)
            · exact .inr (.inr (.inl h))
            · exact .inl h
            · exact .inr (.inl h)
            · exact .inr (.inr (.inr ⟨h, h2⟩))
      · rename_i hnc
        have nk : e ∈ ents (.node q x a b) → e.p ≠ p := fun h e2 => hnc (e2 ▸ hcov e.p (key_mem h))
        split
        · rw [mem_join, ent_eq]
          have hz : e ∈ ents Tr.nil ↔ False := by simp [ents]
          rw [hz]
          constructor
          · rintro (h | h | h)
            · exact .inl h
            · exact .inr ⟨h, nk h⟩
            · exact h.elim
          · rintro (h | ⟨h, -⟩)
            · exact .inl h
            · exact .inr (.inl h)
        · rw [mem_join]
          have hl : e ∈ ents (leaf p v) ↔ e = ⟨p, v⟩ := by
            have h : e ∈ ents (leaf p v) ↔ _ := mem_node
            rw [h, ent_eq]
            simp [ents]
          rw [hl]
          constructor
          · rintro (h | h | h)
            · cases h.2
            · exact .inl h
            · exact .inr ⟨h, nk h⟩
          · rintro (h | ⟨h, -⟩)
            · exact .inr (.inl h)
            · exact .inr (.inr h)
/-- A prefix put into a tree is put among its rows. -/
theorem ents_put (t : Tr) (p : Pf) (v : Int) (hw : WF t) (hp : goodP p = true ∧ p.a < 4294967296) : ents (putT t p v) = putE (ents t) p v :=
  ents_ext _ _ (ents_ord _ (put_wf t p v hw hp).1) (ord_put _ _ _ (ents_ord t hw)) (fun e => by rw [mem_putT t p v e hw hp, mem_putE _ _ _ _ (ents_ord t hw)])
end Go.Proofs.Ytpcahgnibdampaa.Tri
