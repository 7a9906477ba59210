/- The contracts of the trie's Above, Below and All. The contract of the trie's Nodes. -/
import Derived.Test.YtpcahgnibdampaaP23
import Derived.Outline
import Derived.Deep.DeepCutAuto
import Derived.Deep.CutRange
import Derived.Deep.Cut
import Derived.Laws.Tables
import Derived.BigQuiet
import Derived.Deep.RegionHeld3
import Derived.Lib.QuietBelow
namespace Go.Proofs.Ytpcahgnibdampaa.Tri
open Go.RowKit Mem PR Pfx Oct
theorem enters_above : Enters 35 := fun _ _ => rfl
theorem enters_below : Enters 37 := fun _ _ => rfl
theorem enters_all : Enters 39 := fun _ _ => rfl
structure LB (W0 : World) (base bp bl n0 : Nat) (obj : Option Obj) (acc : List Pf) (v : Value) (W : World) : Prop where
  lst : Lst W bl base v acc
  n1 : v.ownBlock ≠ some bl
  n2 : v.ownBlock ≠ some bp
  n3 : v.ownBlock ≠ some n0
  d1 : bl ≠ bp
  d2 : bl ≠ n0
  box : W.heap[bp]? = obj
  bps : bp < n0
  low : Below base W0 W
  hb : base ≤ bl
  hs : base ≤ W.heap.size
  hp : bp < W.heap.size
  hn : base ≤ n0
section
variable {W0 W W' : World} {base bp bl n0 : Nat} {obj : Option Obj} {acc acc2 : List Pf} {v : Value}
theorem LB.blt (h : LB W0 base bp bl n0 obj acc v W) : bl < W.heap.size := block_lt_of_cell (cell_at (i := 0) h.lst.1 rfl)
theorem LB.keep (h : LB W0 base bp bl n0 obj acc v W) (k : Below W.heap.size W W') : LB W0 base bp bl n0 obj acc v W' :=
  { h with lst := ⟨(k.block bl h.blt).trans h.lst.1, own_keep h.lst.2 k⟩, box := (k.block bp h.hp).trans h.box, low := h.low.trans (k.mono h.hs), hs := Nat.le_trans h.hs k.size, hp := Nat.lt_of_lt_of_le h.hp k.size }
theorem LB.set (h : LB W0 base bp bl n0 obj acc v W) {i : Nat} {u : Value} : LB W0 base bp bl n0 obj acc v (W.setCell ⟨n0, i, none⟩ u) :=
  { h with lst := ⟨(set_ne h.d2).trans h.lst.1, ownsRow_setCell_other h.lst.2 h.n3 _⟩, box := (set_ne (Nat.ne_of_lt h.bps)).trans h.box, low := h.low.setCell h.hn u, hs := by simpa [World.setCell] using h.hs, hp := by simpa [World.setCell] using h.hp }
theorem LB.push {e : Ending} (h : LB W0 base bp bl n0 obj acc v W) (hp : Pushed W bl base v acc2 e W') (hn : n0 < W.heap.size) :
    e = .returned (.tuple #[]) ∧ W.heap.size ≤ W'.heap.size ∧ W'.heap[n0]? = W.heap[n0]? ∧ (∀ k, k < base → W'.heap[k]? = W.heap[k]?) ∧ ∃ v', LB W0 base bp bl n0 obj acc2 v' W' := by
  obtain ⟨h1, v', h2, h3, h4, h5, h6, h7, h8, h9⟩ := hp
  have hlow : ∀ k, k < base → W'.heap[k]? = W.heap[k]? := fun k hk => h9 k (Nat.lt_of_lt_of_le hk h.hs) (fun e => by have := h.hb; omega) (fun e => by have := (h.lst.2.lt k e).1; omega)
  refine ⟨h1, h5, h9 n0 hn (fun e => h.d2 e.symm) h.n3, hlow, v', { h with lst := h2, n1 := h3, n2 := fun e => ?_, n3 := fun e => ?_, box := (h9 bp h.hp (fun e => h.d1 e.symm) h.n2).trans h.box, low := ⟨h6.trans h.low.os, h7.trans h.low.tape, h8.trans h.low.output, Nat.le_trans h.low.size h5, fun k hk => (hlow k hk).trans (h.low.block k hk)⟩, hs := Nat.le_trans h.hs h5, hp := Nat.lt_of_lt_of_le h.hp h5 }⟩
  · rcases h4 _ e with h10 | h10
    · exact h.n2 h10
    · have := h.hp; omega
  · rcases h4 _ e with h10 | h10
    · exact h.n3 h10
    · omega
theorem LB.nd (h : LB W0 base bp bl n0 obj acc v W) (h0 : W0.heap.size = base) {b : Nat} {q : Pf} {x : Int} {hh : Bool} {c : Int} {k0 k1 : Value} (hn : Nd W0 b q x hh c k0 k1) : Nd W b q x hh c k0 k1 ∧ b ≠ bl ∧ v.ownBlock ≠ some b ∧ b < base := by
  have hl := hn.low
  rw [h0] at hl
  exact ⟨(h.low.block b hl).trans hn, (fun e => by have := h.hb; omega), (fun e => by have := (h.lst.2.lt b e).1; omega), hl⟩
end
theorem LB.gives {W0 W : World} {base bp bl n0 : Nat} {obj : Option Obj} {acc : List Pf} {v : Value} (h : LB W0 base bp bl n0 obj acc v W) (h0 : W0.heap.size = base) : ∃ A c, v = .slice A acc.length c ∧ GivesP acc W0 (.returned v) W := by
  obtain ⟨A, c, rfl⟩ := row_slice h.lst.2
  subst h0
  exact ⟨A, c, rfl, A, c, rfl, h.lst.2, h.low⟩
def RAb (W0 : World) (base bp bl n0 : Nat) (p : Pf) (total : List Pf) (m : MT) (W : World) : Prop :=
  ∃ acc v, acc ++ abvM p m = total ∧ LB W0 base bp bl n0 (some (.cells #[.int .u32 (p.a : Int), .int .i64 p.n] 25)) acc v W ∧ Mt W0 m ∧ WF (tr m)
theorem wf_kid {b : Nat} {q p : Pf} {x : Int} {h : Bool} {c : Int} {s t : MT} (hw : WF (tr (.node b q x h c s t))) : WF (tr (kidM q p s t)) := by
  unfold kidM; split
  · exact hw.2.2.2.2.1
  · exact hw.2.2.2.2.2
theorem mt_kid {W : World} {b : Nat} {q p : Pf} {x : Int} {h : Bool} {c : Int} {s t : MT} (hw : Mt W (.node b q x h c s t)) : Mt W (kidM q p s t) := by
  unfold kidM; split
  · exact hw.2.1
  · exact hw.2.2
theorem rab_goes {W0 : World} {base bp bl n0 : Nat} {p : Pf} {total : List Pf} (h0 : W0.heap.size = base) : Goes (RAb W0 base bp bl n0 p total) where
  keep := fun ⟨acc, v, h1, h2, h3, h4⟩ hb => ⟨acc, v, h1, h2.keep hb, h3, h4⟩
  nd := fun ⟨_, _, _, h2, h3, h4⟩ => ⟨(h2.nd h0 h3.1).1, h4.1⟩
theorem rab_visits {W0 : World} {base bp bl n0 : Nat} {p : Pf} {total : List Pf} (h0 : W0.heap.size = base) (hl : total.length ≤ 1000) :
    Visits 35 #[.pointer (some ⟨bp, 0, none⟩), .pointer (some ⟨bl, 0, none⟩)] p n0 (RAb W0 base bp bl n0 p total) := by
  rintro b q x h c s t W hn ⟨acc, v, h1, h2, h3, h4⟩ hc
  obtain ⟨a1, a2, a3, a4⟩ := h2.nd h0 h3.1
  refine (above1_any p a1 h2.box h2.lst h2.n1 a2 a3 h2.hs (by rw [← h1, List.length_append] at hl; omega)).mono ?_
  intro e W' hp
  obtain ⟨b1, b2, b3, b4, v', b5⟩ := h2.push hp hn
  refine ⟨b1, b2, b3, ⟨x, h, c, (b4 b a4).trans a1⟩, acc ++ shownP q p h, v', ?_, b5, mt_kid h3, wf_kid h4⟩
  rw [← h1, ← abv_kid, List.append_assoc]
  congr 1
  rw [show abvM p (.node b q x h c s t) = if covP q p then shownP q p h ++ (if sd q p = 0 then abvM p s else abvM p t) else [] from rfl, if_pos hc]
theorem rab_end {W0 W : World} {base bp bl n0 : Nat} {p : Pf} {total : List Pf} {m : MT} (h : RAb W0 base bp bl n0 p total m W) (he : Ends p m) : ∃ v, LB W0 base bp bl n0 (some (.cells #[.int .u32 (p.a : Int), .int .i64 p.n] 25)) total v W := by
  obtain ⟨acc, v, h1, h2, -⟩ := h
  have : abvM p m = [] := by
    cases m with
    | nil => rfl
    | node b q x h c s t =>
      unfold abvM
      have he : covP q p = false := he
      rw [he]; rfl
  rw [this, List.append_nil] at h1
  exact ⟨v, h1 ▸ h2⟩
set_option maxRecDepth 100000 in
set_option maxHeartbeats 4000000 in
theorem above_m {W : World} {tv : Value} {m : MT} (p : Pf) (hp : p.ok) (hT : Topped W tv m) (hw : WF (tr m)) (hl : (abvM p m).length ≤ 1000) :
    Calls Try.prog 15 #[tv, pV p] W (GivesP (abvM p m) W) := by
  obtain ⟨W1, hW1⟩ : ∃ W1, W.alloc (.cells #[.int .u32 (p.a : Int), .int .i64 p.n] 25) = W1 := ⟨_, rfl⟩
  obtain ⟨W2, hW2⟩ : ∃ W2, W1.alloc (.cells #[.slice none 0 0] 41) = W2 := ⟨_, rfl⟩
  have s1 : W1.heap.size = W.heap.size + 1 := by rw [← hW1]; simp
  have s2 : W2.heap.size = W.heap.size + 2 := by rw [← hW2]; simp [s1]
  have b1 : Below W.heap.size W W1 := by rw [← hW1]; exact below_new _ _
  have b2 : Below W1.heap.size W1 W2 := by rw [← hW2]; exact below_new _ _
  have g0 : W2.heap[W.heap.size]? = some (.cells #[.int .u32 (p.a : Int), .int .i64 p.n] 25) := (b2.block _ (by omega)).trans (by rw [← hW1]; exact heap_alloc_new _ _)
  have g1 : W2.heap[W.heap.size + 1]? = some (.cells #[.slice none 0 0] 41) := by rw [← hW2, ← s1]; exact heap_alloc_new _ _
  have c0 := cell_at (i := 0) g0 rfl
  have c1 := cell_at (i := 1) g0 rfl
  have HB := Go.Lib.hid (Pfx.Below.tr b1 b2)
  have HT := Go.Lib.hid (fun (W' : World) (h : Below W2.heap.size W2 W') => hT.below (Pfx.Below.tr HB.out h))
  have CT := Go.Lib.hid (fun (W' : World) (h : Below W2.heap.size W2 W') => (HT.out W' h).top W' (Below.refl _ _))
  have HLB := Go.Lib.hid (fun (W' : World) (h : Below W2.heap.size W2 W') => (⟨⟨(h.block _ (by omega)).trans g1, ⟨rfl, .inl ⟨rfl, rfl⟩⟩⟩, (fun e => by cases e), (fun e => by cases e), (fun e => by cases e), by omega, by have := h.size; omega, (h.block _ (by omega)).trans g0, by have := h.size; omega, Pfx.Below.tr HB.out h, by omega, by have := h.size; omega, by have := h.size; omega, by have := h.size; omega⟩ : LB W W.heap.size W.heap.size (W.heap.size + 1) W'.heap.size (some (.cells #[.int .u32 (p.a : Int), .int .i64 p.n] 25)) [] (.slice none 0 0) W'))
  have HKP := Go.Lib.hid (fun (W' : World) (h : Below W2.heap.size W2 W') => (⟨(h.cell (p := ⟨W.heap.size, 0, none⟩) (show W.heap.size < W2.heap.size by omega)).trans c0, (h.cell (p := ⟨W.heap.size, 1, none⟩) (show W.heap.size < W2.heap.size by omega)).trans c1⟩ : W'.cell? ⟨W.heap.size, 0, none⟩ = some (.int .u32 (p.a : Int)) ∧ W'.cell? ⟨W.heap.size, 1, none⟩ = some (.int .i64 p.n)))
  have CO := Go.Lib.hid (fun (W' : World) (h : Below W2.heap.size W2 W') => over_any 35 #[.pointer (some ⟨W.heap.size, 0, none⟩), .pointer (some ⟨W.heap.size + 1, 0, none⟩)] enters_above p hp (RAb W W.heap.size W.heap.size (W.heap.size + 1) W'.heap.size p (abvM p m)) (rab_goes rfl) m W'
    ⟨[], _, rfl, HLB.out W' h, hT.mt, hw⟩ (rab_visits rfl hl))
  clear hT hw hl g0 g1 b1 b2 HT HLB
  unfold pV at *
  go_enter Try.func15, Try.ntmps15
  go_wp2
  go_region_held3 (fun w' => w'.cell? ⟨W.heap.size, 0, none⟩ = some (.int .u32 (p.a : Int)) ∧ w'.cell? ⟨W.heap.size, 1, none⟩ = some (.int .i64 p.n)) (first | assumption | exact HKP.out _ ((Below.refl _ _).drew) | exact HKP.out _ B1.out | trivial) (first
    | (go_at_call 31; refine (CT.out _ ((Below.refl _ _).drew)).mono ?_; rintro e w3 ⟨rfl, hb3⟩; have B1 := Go.Lib.hid ((Below.refl W2.heap.size W2).drew.trans (hb3.mono (Below.refl W2.heap.size W2).drew.size)); clear hb3)
    | (go_at_call 33; refine (CO.out _ B1.out).mono ?_; rintro e w4 ⟨rfl, m4, hr4, he4⟩; obtain ⟨v4, hv4⟩ := rab_end hr4 he4; have s4 : w4.cell? ⟨W.heap.size, 0, none⟩ = some (.int .u32 (p.a : Int)) ∧ w4.cell? ⟨W.heap.size, 1, none⟩ = some (.int .i64 p.n) := ⟨cell_at hv4.box rfl, cell_at hv4.box rfl⟩; obtain ⟨A4, c4, hv4e, hg4⟩ := hv4.gives rfl; subst hv4e; have HG4 := Go.Lib.hid hg4; have l0 : w4.cell? ⟨W.heap.size + 1, 0, none⟩ = some (.slice A4 (abvM p m).length c4) := cell_at hv4.lst.1 rfl; clear hr4 he4 hv4 hg4))
  all_goals go_wp2
  all_goals go_ret
  all_goals exact HG4.out
structure Lister (g : MT → List Pf) (own : Pf → Bool → List Pf) : Prop where
  nil : g .nil = []
  node : ∀ (b : Nat) (q : Pf) (x : Int) (h : Bool) (c : Int) (s t : MT), g (.node b q x h c s t) = own q h ++ (g s ++ g t)
theorem held_lister : Lister heldM (fun q h => if h then [q] else []) := ⟨rfl, fun _ _ _ _ _ _ _ => rfl⟩
theorem bel_lister (p : Pf) : Lister (belM p) (fun q h => shownP q p h) := ⟨rfl, fun _ _ _ _ _ _ _ => rfl⟩
def REa (g : MT → List Pf) (W0 : World) (base bp bl n0 : Nat) (obj : Option Obj) (total : List Pf) (l : List MT) (W : World) : Prop :=
  ∃ acc v, acc ++ l.flatMap g = total ∧ LB W0 base bp bl n0 obj acc v W ∧ ∀ m ∈ l, Mt W0 m ∧ WF (tr m)
theorem deeper_of {q : Pf} {i : Nat} {m : MT} (hi : In q i (tr m)) (hw : WF (tr m)) : Deeper q m := by
  cases m with
  | nil => trivial
  | node b r x h c s t => exact ⟨hi.1, (good_len hw.1.1).2⟩
theorem wf_nd {b : Nat} {q : Pf} {x : Int} {h : Bool} {c : Int} {s t : MT} (hw : WF (tr (.node b q x h c s t))) : 0 ≤ q.n ∧ q.n ≤ 32 ∧ Deeper q s ∧ Deeper q t :=
  ⟨(good_len hw.1.1).1, (good_len hw.1.1).2, deeper_of hw.2.2.1 hw.2.2.2.2.1, deeper_of hw.2.2.2.1 hw.2.2.2.2.2⟩
theorem rea_walks {g : MT → List Pf} {own : Pf → Bool → List Pf} (hg : Lister g own) {W0 : World} {base bp bl n0 : Nat} {obj : Option Obj} {total : List Pf} : Walks n0 (REa g W0 base bp bl n0 obj total) where
  keep := fun ⟨acc, v, h1, h2, h3⟩ hb => ⟨acc, v, h1, h2.keep hb, h3⟩
  set := fun ⟨acc, v, h1, h2, h3⟩ => ⟨acc, v, h1, h2.set, h3⟩
  nil := fun ⟨acc, v, h1, h2, h3⟩ => ⟨acc, v, (by rw [List.flatMap_cons, hg.nil, List.nil_append] at h1; exact h1), h2, fun m hm => h3 m (List.mem_cons_of_mem _ hm)⟩
  nil2 := fun ⟨acc, v, h1, h2, h3⟩ => ⟨acc, v, (by rw [List.flatMap_cons, List.flatMap_cons, hg.nil, List.nil_append] at h1; rw [List.flatMap_cons]; exact h1), h2, fun m hm => (List.mem_cons.1 hm).elim (fun e => e ▸ h3 _ List.mem_cons_self) (fun hm => h3 m (List.mem_cons_of_mem _ (List.mem_cons_of_mem _ hm)))⟩
  nd := fun ⟨_, _, _, _, h3⟩ => wf_nd (h3 _ List.mem_cons_self).2
theorem rea_next {g : MT → List Pf} {own : Pf → Bool → List Pf} (hg : Lister g own) {W0 W W' : World} {base bp bl n0 : Nat} {obj : Option Obj} {total acc : List Pf} {v : Value} {b : Nat} {q : Pf} {x : Int} {h : Bool} {c : Int} {s t : MT} {l : List MT} {e : Ending} (h0 : W0.heap.size = base)
    (h1 : acc ++ (MT.node b q x h c s t :: l).flatMap g = total) (h2 : LB W0 base bp bl n0 obj acc v W) (h3 : ∀ m ∈ MT.node b q x h c s t :: l, Mt W0 m ∧ WF (tr m)) (hn : n0 < W.heap.size) (hp : Pushed W bl base v (acc ++ own q h) e W') :
    e = .returned (.tuple #[]) ∧ W.heap.size ≤ W'.heap.size ∧ W'.heap[n0]? = W.heap[n0]? ∧ Nd W' b q x h c (ptr s) (ptr t) ∧ REa g W0 base bp bl n0 obj total (s :: t :: l) W' := by
  obtain ⟨m1, m2⟩ := h3 _ List.mem_cons_self
  obtain ⟨a1, a2, a3, a4⟩ := h2.nd h0 m1.1
  obtain ⟨b1, b2, b3, b4, v', b5⟩ := h2.push hp hn
  refine ⟨b1, b2, b3, (b4 b a4).trans a1, acc ++ own q h, v', ?_, b5, ?_⟩
  · rw [← h1, List.flatMap_cons, List.flatMap_cons, List.flatMap_cons, hg.node]
    simp only [List.append_assoc]
  · intro m hm
    rcases List.mem_cons.1 hm with rfl | hm
    · exact ⟨m1.2.1, m2.2.2.2.2.1⟩
    · rcases List.mem_cons.1 hm with rfl | hm
      · exact ⟨m1.2.2, m2.2.2.2.2.2⟩
      · exact h3 m (List.mem_cons_of_mem _ hm)
theorem rea_all {W0 : World} {base bp bl n0 : Nat} {obj : Option Obj} {total : List Pf} (h0 : W0.heap.size = base) (hl : total.length ≤ 1000) : VisitsE 39 #[.pointer (some ⟨bl, 0, none⟩)] n0 (REa heldM W0 base bp bl n0 obj total) := by
  rintro b q x h c s t l W hn ⟨acc, v, h1, h2, h3⟩
  obtain ⟨a1, a2, a3, a4⟩ := h2.nd h0 (h3 _ List.mem_cons_self).1.1
  refine (all1_any a1 h2.lst h2.n1 a2 a3 h2.hs (by rw [← h1, List.length_append] at hl; omega)).mono ?_
  intro e W' hp
  refine rea_next held_lister h0 h1 h2 h3 hn ?_
  cases h
  · simpa using hp
  · exact hp
theorem rea_below {W0 : World} {base bp bl n0 : Nat} {p : Pf} {total : List Pf} (h0 : W0.heap.size = base) (hl : total.length ≤ 1000) : VisitsE 37 #[.pointer (some ⟨bp, 0, none⟩), .pointer (some ⟨bl, 0, none⟩)] n0 (REa (belM p) W0 base bp bl n0 (some (.cells #[.int .u32 (p.a : Int), .int .i64 p.n] 25)) total) := by
  rintro b q x h c s t l W hn ⟨acc, v, h1, h2, h3⟩
  obtain ⟨a1, a2, a3, a4⟩ := h2.nd h0 (h3 _ List.mem_cons_self).1.1
  refine (below1_any p a1 h2.box h2.lst h2.n1 a2 a3 h2.hs (by rw [← h1, List.length_append] at hl; omega)).mono ?_
  intro e W' hp
  exact rea_next (bel_lister p) h0 h1 h2 h3 hn hp
theorem rea_end {g : MT → List Pf} {W0 W : World} {base bp bl n0 : Nat} {obj : Option Obj} {total : List Pf} (h : REa g W0 base bp bl n0 obj total [] W) : ∃ v, LB W0 base bp bl n0 obj total v W := by
  obtain ⟨acc, v, h1, h2, -⟩ := h
  rw [List.flatMap_nil, List.append_nil] at h1
  exact ⟨v, h1 ▸ h2⟩
theorem len_of {m : MT} (hw : WF (tr m)) : LenOK 0 m := by
  cases m with
  | nil => trivial
  | node b q x h c s t => exact ⟨(good_len hw.1.1).1, (good_len hw.1.1).2⟩
theorem sub_len {p : Pf} {m : MT} (hw : WF (tr m)) : LenOK 0 (subM m p) := len_of (sub_wfm hw)
set_option maxRecDepth 100000 in
set_option maxHeartbeats 4000000 in
theorem below_m {W : World} {tv : Value} {m : MT} (p : Pf) (hp : p.ok) (hT : Topped W tv m) (hw : WF (tr m)) (hl : (belM p (subM m p)).length ≤ 1000) :
    Calls Try.prog 17 #[tv, pV p] W (GivesP (belM p (subM m p)) W) := by
  obtain ⟨W1, hW1⟩ : ∃ W1, W.alloc (.cells #[.int .u32 (p.a : Int), .int .i64 p.n] 25) = W1 := ⟨_, rfl⟩
  obtain ⟨W2, hW2⟩ : ∃ W2, W1.alloc (.cells #[.slice none 0 0] 41) = W2 := ⟨_, rfl⟩
  have s1 : W1.heap.size = W.heap.size + 1 := by rw [← hW1]; simp
  have s2 : W2.heap.size = W.heap.size + 2 := by rw [← hW2]; simp [s1]
  have b1 : Below W.heap.size W W1 := by rw [← hW1]; exact below_new _ _
  have b2 : Below W1.heap.size W1 W2 := by rw [← hW2]; exact below_new _ _
  have g0 : W2.heap[W.heap.size]? = some (.cells #[.int .u32 (p.a : Int), .int .i64 p.n] 25) := (b2.block _ (by omega)).trans (by rw [← hW1]; exact heap_alloc_new _ _)
  have g1 : W2.heap[W.heap.size + 1]? = some (.cells #[.slice none 0 0] 41) := by rw [← hW2, ← s1]; exact heap_alloc_new _ _
  have c0 := cell_at (i := 0) g0 rfl
  have c1 := cell_at (i := 1) g0 rfl
  have HB := Go.Lib.hid (Pfx.Below.tr b1 b2)
  have HT := Go.Lib.hid (fun (W' : World) (h : Below W2.heap.size W2 W') => hT.below (Pfx.Below.tr HB.out h))
  have CT := Go.Lib.hid (fun (W' : World) (h : Below W2.heap.size W2 W') => (HT.out W' h).top W' (Below.refl _ _))
  have CU := Go.Lib.hid (fun (W' : World) (h : Below W2.heap.size W2 W') => under_any p hp m W' (HT.out W' h).mt (good_of_wf m hw))
  have HLB := Go.Lib.hid (fun (W' : World) (h : Below W2.heap.size W2 W') => (⟨⟨(h.block _ (by omega)).trans g1, ⟨rfl, .inl ⟨rfl, rfl⟩⟩⟩, (fun e => by cases e), (fun e => by cases e), (fun e => by cases e), by omega, by have := h.size; omega, (h.block _ (by omega)).trans g0, by have := h.size; omega, Pfx.Below.tr HB.out h, by omega, by have := h.size; omega, by have := h.size; omega, by have := h.size; omega⟩ : LB W W.heap.size W.heap.size (W.heap.size + 1) W'.heap.size (some (.cells #[.int .u32 (p.a : Int), .int .i64 p.n] 25)) [] (.slice none 0 0) W'))
  have HKP := Go.Lib.hid (fun (W' : World) (h : Below W2.heap.size W2 W') => (⟨(h.cell (p := ⟨W.heap.size, 0, none⟩) (show W.heap.size < W2.heap.size by omega)).trans c0, (h.cell (p := ⟨W.heap.size, 1, none⟩) (show W.heap.size < W2.heap.size by omega)).trans c1⟩ : W'.cell? ⟨W.heap.size, 0, none⟩ = some (.int .u32 (p.a : Int)) ∧ W'.cell? ⟨W.heap.size, 1, none⟩ = some (.int .i64 p.n)))
  have CO := Go.Lib.hid (fun (W' : World) (h : Below W2.heap.size W2 W') => each_any 37 #[.pointer (some ⟨W.heap.size, 0, none⟩), .pointer (some ⟨W.heap.size + 1, 0, none⟩)] enters_below (REa (belM p) W W.heap.size W.heap.size (W.heap.size + 1) W'.heap.size (some (.cells #[.int .u32 (p.a : Int), .int .i64 p.n] 25)) (belM p (subM m p))) (subM m p) W' (rea_walks (bel_lister p))
    ⟨[], _, (by simp), HLB.out W' h, fun m' hm => by rw [List.mem_singleton.1 hm]; exact ⟨sub_mt hT.mt, sub_wfm hw⟩⟩ (sub_len hw) (rea_below rfl hl))
  clear hT hw hl g0 g1 b1 b2 HT HLB
  generalize subM m p = S at *
  unfold pV at *
  go_enter Try.func17, Try.ntmps17
  go_wp2
  go_region_held3 (fun w' => w'.cell? ⟨W.heap.size, 0, none⟩ = some (.int .u32 (p.a : Int)) ∧ w'.cell? ⟨W.heap.size, 1, none⟩ = some (.int .i64 p.n)) (first | assumption | exact HKP.out _ ((Below.refl _ _).drew) | exact HKP.out _ B1.out | exact HKP.out _ B2.out | trivial) (first
    | (go_at_call 31; refine (CT.out _ ((Below.refl _ _).drew)).mono ?_; rintro e w3 ⟨rfl, hb3⟩; have B1 := Go.Lib.hid ((Below.refl W2.heap.size W2).drew.trans (hb3.mono (Below.refl W2.heap.size W2).drew.size)); clear hb3)
    | (go_at_call 30; refine (CU.out _ B1.out).mono ?_; rintro e w5 ⟨rfl, hb5⟩; have B2 := Go.Lib.hid (B1.out.trans (hb5.mono B1.out.size)); clear hb5)
    | (go_at_call 36; refine (CO.out _ B2.out).mono ?_; rintro e w4 ⟨rfl, hr4⟩; obtain ⟨v4, hv4⟩ := rea_end hr4; have s4 : w4.cell? ⟨W.heap.size, 0, none⟩ = some (.int .u32 (p.a : Int)) ∧ w4.cell? ⟨W.heap.size, 1, none⟩ = some (.int .i64 p.n) := ⟨cell_at hv4.box rfl, cell_at hv4.box rfl⟩; obtain ⟨A4, c4, hv4e, hg4⟩ := hv4.gives rfl; subst hv4e; have HG4 := Go.Lib.hid hg4; have l0 : w4.cell? ⟨W.heap.size + 1, 0, none⟩ = some (.slice A4 (belM p S).length c4) := cell_at hv4.lst.1 rfl; clear hr4 hv4 hg4))
  all_goals go_wp2
  all_goals go_ret
  all_goals exact HG4.out
set_option maxRecDepth 100000 in
set_option maxHeartbeats 4000000 in
theorem all_m {W : World} {tb : Nat} {m : MT} (hT : TreeM W tb m) (hw : WF (tr m)) (hf : Fit m) (hl : (heldM m).length ≤ 1000) :
    Calls Try.prog 20 #[.pointer (some ⟨tb, 0, none⟩)] W (GivesP (heldM m) W) := by
  obtain ⟨i0, E0⟩ := elemP
  obtain ⟨n, hn⟩ : ∃ n, n = (heldM m).length := ⟨_, rfl⟩
  have hcnt : cntV m = (n : Int) := by rw [fit_cnt hf, hn, held_is]; simp [keys]
  have CL := len_m (Topped.of_tree hT)
  rw [hcnt] at CL
  have HCL := Go.Lib.hid CL
  obtain ⟨Q, hQ⟩ : ∃ Q, madeCells (Value.agg #[.int .u32 0, .int .i64 0]).cells (n * i0.size) = Q := ⟨_, rfl⟩
  have hmk : ∀ Wx : World, (Instr.makeSlice 41 (.int .i64 0) (.int .i64 (n : Int))).run Try.prog Wx = .ok (.slice (some ⟨Wx.heap.size, 0, none⟩) 0 n) (Wx.alloc (.cells Q 25)) := fun Wx => by
    have h := run_make (P := Try.prog) Wx _ _ i0 _ E0.ht E0.hi E0.hz .i64 .i64 0 (n : Int) (Int.le_refl _) (by omega) (by rw [E0.hby]; omega) (by omega)
    simp only [Int.toNat_zero, Int.toNat_natCast] at h
    rw [hQ] at h
    exact h
  have HOW := Go.Lib.hid (fun (Wx : World) (base : Nat) (h : base ≤ Wx.heap.size) => (by
    have h2 := World.ownsRow_made (base := base) (size := 2) (e := 25) Wx Q n h (by unfold maxLen; omega) (by rw [← hQ, E0.hsize]; exact size_madeCells _ _)
    exact h2 : (Wx.alloc (.cells Q 25)).ownsRow base 25 2 (.slice (some ⟨Wx.heap.size, 0, none⟩) 0 n) 0 []))
  have HT := Go.Lib.hid (fun (W' : World) (h : Below W.heap.size W W') => hT.below h)
  have CT := Go.Lib.hid (fun (W' : World) (h : Below W.heap.size W W') => top_any (HT.out W' h))
  have HMW := Go.Lib.hid (show ∀ m' ∈ [m], Mt W m' ∧ WF (tr m') from fun m' hm => by rw [List.mem_singleton.1 hm]; exact ⟨hT.2.1, hw⟩)
  have HTB := Go.Lib.hid (hT.low tb (.inl rfl))
  have HLE := Go.Lib.hid (len_of hw)
  clear CL hcnt hQ E0 hT hw hf hn
  go_enter Try.func20, Try.ntmps20
  go_upto_region 2 with (go_at_call 19; refine HCL.out.mono ?_; rintro e w1 ⟨rfl, hb1⟩; have B1 := Go.Lib.hid hb1; clear hb1)
  obtain ⟨W2, hW2⟩ : ∃ W2, W2 = w1.alloc (.cells Q 25) := ⟨_, rfl⟩
  obtain ⟨W3, hW3⟩ : ∃ W3, W3 = W2.alloc (.cells #[.slice (some ⟨w1.heap.size, 0, none⟩) 0 n] 41) := ⟨_, rfl⟩
  have s2 : W2.heap.size = w1.heap.size + 1 := by rw [hW2]; simp
  have s3 : W3.heap.size = w1.heap.size + 2 := by rw [hW3]; simp [s2]
  have hs1 := B1.out.size
  have b2 : Below w1.heap.size w1 W2 := by rw [hW2]; exact below_new _ _
  have b3 : Below W2.heap.size W2 W3 := by rw [hW3]; exact below_new _ _
  have ho : W2.ownsRow W.heap.size 25 2 (.slice (some ⟨w1.heap.size, 0, none⟩) 0 n) 0 [] := by rw [hW2]; exact HOW.out w1 _ hs1
  have g1 : W3.heap[w1.heap.size + 1]? = some (.cells #[.slice (some ⟨w1.heap.size, 0, none⟩) 0 n] 41) := by rw [hW3, ← s2]; exact heap_alloc_new _ _
  have hlow : Below W.heap.size W W3 := Pfx.Below.tr B1.out (Pfx.Below.tr b2 b3)
  have HL3 := Go.Lib.hid hlow
  have HLB := Go.Lib.hid (fun (W' : World) (h : Below W3.heap.size W3 W') => (⟨⟨(h.block _ (by omega)).trans g1, own_keep (own_keep ho b3) h⟩, (fun e => by have e : w1.heap.size = w1.heap.size + 1 := Option.some.inj e; omega), (fun e => by have e : w1.heap.size = tb := Option.some.inj e; have := HTB.out; omega), (fun e => by have e : w1.heap.size = W'.heap.size := Option.some.inj e; have := h.size; omega), by have := HTB.out; omega, by have := h.size; omega, rfl, by have := h.size; have := HTB.out; omega, Pfx.Below.tr hlow h, by omega, by have := h.size; omega, by have := h.size; have := HTB.out; omega, by have := h.size; omega⟩ : LB W W.heap.size tb (w1.heap.size + 1) W'.heap.size (W'.heap[tb]?) [] (.slice (some ⟨w1.heap.size, 0, none⟩) 0 n) W'))
  have CO := Go.Lib.hid (fun (W' : World) (h : Below W3.heap.size W3 W') => each_any 39 #[.pointer (some ⟨w1.heap.size + 1, 0, none⟩)] enters_all (REa heldM W W.heap.size tb (w1.heap.size + 1) W'.heap.size (W'.heap[tb]?) (heldM m)) m W' (rea_walks held_lister)
    ⟨[], _, (by simp), HLB.out W' h, HMW.out⟩ HLE.out (rea_all rfl hl))
  have e3 : (w1.alloc (.cells Q 25)).alloc (.cells #[.slice (some ⟨w1.heap.size, 0, none⟩) 0 n] 41) = W3 := by rw [hW3, hW2]
  clear hW2 hW3 b2 b3 ho g1 hlow HLB hs1 s2 hmk
  generalize hx : w1.heap.size = x1 at *
  clear hx
  rw [e3]
  clear e3
  go_wp2_with (first
    | (go_at_call 31; refine (CT.out _ HL3.out).mono ?_; rintro e w5 ⟨rfl, hb5⟩; have B2 := Go.Lib.hid hb5; clear hb5)
    | (go_at_call 36; refine (CO.out _ B2.out).mono ?_; rintro e w4 ⟨rfl, hr4⟩; obtain ⟨v4, hv4⟩ := rea_end hr4; obtain ⟨A4, c4, hv4e, hg4⟩ := hv4.gives rfl; subst hv4e; have HG4 := Go.Lib.hid hg4; have l0 : w4.cell? ⟨x1 + 1, 0, none⟩ = some (.slice A4 (heldM m).length c4) := cell_at hv4.lst.1 rfl; clear hr4 hv4 hg4))
  go_ret
  exact HG4.out
end Go.Proofs.Ytpcahgnibdampaa.Tri
namespace Go.Proofs.Ytpcahgnibdampaa.Tri
open Go.RowKit Mem PR Pfx Oct
def sumM (l : List MT) : Nat := (l.map msize).foldr (· + ·) 0
theorem sumM_cons (m : MT) (l : List MT) : sumM (m :: l) = msize m + sumM l := by simp only [sumM, List.map_cons, List.foldr_cons]
structure RN (W0 : World) (base bl n0 total : Nat) (l : List MT) (W : World) : Prop where
  box : ∃ n : Nat, n + sumM l = total ∧ W.heap[bl]? = some (.cells #[.int .i64 (n : Int)] 3)
  low : Below base W0 W
  hb : base ≤ bl
  d : bl < n0
  hs : base ≤ W.heap.size
  bs : bl < W.heap.size
  all : ∀ m ∈ l, Mt W0 m ∧ WF (tr m)
theorem rn_walks {W0 : World} {base bl n0 total : Nat} : Walks n0 (RN W0 base bl n0 total) where
  keep := fun h k => by
    obtain ⟨n, h1, h2⟩ := h.box
    exact { h with box := ⟨n, h1, (k.block _ h.bs).trans h2⟩, low := h.low.trans (k.mono h.hs), hs := Nat.le_trans h.hs k.size, bs := Nat.lt_of_lt_of_le h.bs k.size }
  set := fun {l W i v} h => by
    obtain ⟨n, h1, h2⟩ := h.box
    exact { h with box := ⟨n, h1, (set_ne (Nat.ne_of_lt h.d)).trans h2⟩, low := h.low.setCell (show base ≤ n0 by have := h.hb; have := h.d; omega) v, hs := by simpa [World.setCell] using h.hs, bs := by simpa [World.setCell] using h.bs }
  nil := fun h => by
    obtain ⟨n, h1, h2⟩ := h.box
    exact { h with box := ⟨n, (by rw [sumM_cons] at h1; simp only [msize] at h1; omega), h2⟩, all := fun m hm => h.all m (List.mem_cons_of_mem _ hm) }
  nil2 := fun h => by
    obtain ⟨n, h1, h2⟩ := h.box
    exact { h with box := ⟨n, (by rw [sumM_cons, sumM_cons] at h1; rw [sumM_cons]; simp only [msize] at h1 ⊢; omega), h2⟩, all := fun m hm => (List.mem_cons.1 hm).elim (fun e => e ▸ h.all _ List.mem_cons_self) (fun hm => h.all m (List.mem_cons_of_mem _ (List.mem_cons_of_mem _ hm))) }
  nd := fun h => wf_nd (h.all _ List.mem_cons_self).2
theorem rn_visits {W0 : World} {base bl n0 total : Nat} (h0 : W0.heap.size = base) (ht : total ≤ 100000) : VisitsE 42 #[.pointer (some ⟨bl, 0, none⟩)] n0 (RN W0 base bl n0 total) := by
  intro b q x h c s t l W hn hr
  obtain ⟨n, h1, h2⟩ := hr.box
  obtain ⟨m1, m2⟩ := hr.all _ List.mem_cons_self
  have hl := m1.1.low
  rw [h0] at hl
  rw [sumM_cons] at h1
  refine (nodes1_any h2 (by omega) (by omega)).mono ?_
  rintro e W' ⟨rfl, rfl⟩
  have hbl := hr.hb
  have hd := hr.d
  refine ⟨rfl, (by simp [World.setCell]), set_ne (by omega), (set_ne (by omega)).trans ((hr.low.block b hl).trans m1.1), ?_⟩
  refine { hr with box := ⟨n + 1, ?_, ?_⟩, low := hr.low.setCell hbl _, hs := by simpa [World.setCell] using hr.hs, bs := by simpa [World.setCell] using hr.bs, all := ?_ }
  · rw [sumM_cons, sumM_cons, ← h1]; simp only [msize]; omega
  · exact heap_set (i := 0) (.int .i64 ((n : Int) + 1)) h2
  · intro m hm
    rcases List.mem_cons.1 hm with rfl | hm
    · exact ⟨m1.2.1, m2.2.2.2.2.1⟩
    · rcases List.mem_cons.1 hm with rfl | hm
      · exact ⟨m1.2.2, m2.2.2.2.2.2⟩
      · exact hr.all m (List.mem_cons_of_mem _ hm)
set_option maxRecDepth 100000 in
set_option maxHeartbeats 4000000 in
theorem nodes_m {W : World} {tv : Value} {m : MT} (hT : Topped W tv m) (hw : WF (tr m)) (hl : msize m ≤ 100000) :
    Calls Try.prog 23 #[tv] W (Tells (.int .i64 (msize m)) W) := by
  obtain ⟨W1, hW1⟩ : ∃ W1, W.alloc (.cells #[.int .i64 0] 3) = W1 := ⟨_, rfl⟩
  have s1 : W1.heap.size = W.heap.size + 1 := by rw [← hW1]; simp
  have b1 : Below W.heap.size W W1 := by rw [← hW1]; exact below_new _ _
  have g1 : W1.heap[W.heap.size]? = some (.cells #[.int .i64 0] 3) := by rw [← hW1]; exact heap_alloc_new _ _
  have HB := Go.Lib.hid b1
  have CT := Go.Lib.hid (hT.top W1 b1)
  have CO := Go.Lib.hid (fun (W' : World) (h : Below W1.heap.size W1 W') => each_any 42 #[.pointer (some ⟨W.heap.size, 0, none⟩)] enters_nodes (RN W W.heap.size W.heap.size W'.heap.size (msize m)) m W' rn_walks
    ⟨⟨0, (by simp [sumM]), (h.block _ (by omega)).trans g1⟩, Pfx.Below.tr b1 h, Nat.le_refl _, by have := h.size; omega, by have := h.size; omega, by have := h.size; omega, fun m' hm => by rw [List.mem_singleton.1 hm]; exact ⟨hT.mt, hw⟩⟩ (len_of hw) (rn_visits rfl hl))
  have HW1 := Go.Lib.hid hW1
  clear hT hw hl g1 b1 hW1
  go_enter Try.func23, Try.ntmps23
  go_upto_region 2 with fail
  rw [HW1.out]
  go_wp2_with (first
    | (go_at_call 31; refine CT.out.mono ?_; rintro e w5 ⟨rfl, hb5⟩; have B2 := Go.Lib.hid hb5; clear hb5)
    | (go_at_call 36; refine (CO.out _ B2.out).mono ?_; rintro e w4 ⟨rfl, hr4⟩; obtain ⟨n4, hn4, hg4⟩ := hr4.box; have L4 := Go.Lib.hid hr4.low; have e4 : n4 = msize m := (by simpa [sumM] using hn4); subst e4; have l0 : w4.cell? ⟨W.heap.size, 0, none⟩ = some (.int .i64 (msize m)) := cell_at hg4 rfl; clear hr4 hn4 hg4))
  go_ret
  exact ⟨rfl, L4.out⟩
end Go.Proofs.Ytpcahgnibdampaa.Tri
