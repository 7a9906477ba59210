/- Words for memory: a tree in blocks of its own, and rows beside it. It speaks of no function of the program. What the laws ask of the program's tree. Words for memory: acts in a row. It speaks of no function of the program. Words for memory: a tree of nodes, each in a block of its own, what hangs above a place in it, and what turns when something else is hung there. -/
import Derived.Test.YtpcahgnibdampaaP08
import Derived.Test.YtpcahgnibdampaaP05
import Derived.Test.YtpcahgnibdampaaP09
namespace Go.Proofs.Ytpcahgnibdampaa.Tri
open Go.RowKit Mem PR Pfx Oct
def Grow (F F' : Nat → Prop) (W : World) : Prop := ∀ k, F' k → F k ∨ W.heap.size ≤ k
theorem Grow.trans {F G H : Nat → Prop} {a b : World} (h : Grow F G a) (k : Grow G H b) (hs : a.heap.size ≤ b.heap.size) : Grow F H a := fun i hi =>
  (k i hi).elim (fun hg => h i hg) (fun hn => .inr (Nat.le_trans hs hn))
theorem row_part {w w' : World} {m n : Nat} {v : Value} {cs : List Value} (h : Row w m v n cs) (hv : ∀ g, v.ownBlock = some g → w'.heap[g]? = w.heap[g]?) (hs : w.heap.size ≤ w'.heap.size) : Row w' m v n cs := by
  obtain ⟨hl, A, c, rfl, hn, hc, hr⟩ := h
  refine ⟨hl, A, c, rfl, hn, hc, fun h0 => ?_⟩
  obtain ⟨b, off, hA, hlt, hcell⟩ := hr h0
  refine ⟨b, off, hA, Nat.lt_of_lt_of_le hlt hs, fun i x hx => ?_⟩
  subst hA
  have h1 := hv b rfl
  have h2 := hcell i x hx
  unfold World.cell? at h2 ⊢
  simp only [h1]
  exact h2
theorem Rws.only {w w' : World} {v : Value} {l : List Ent} {F : Nat → Prop} (h : Rws w v l) (hv : Lies w.heap.size F v) (ho : Only F w w') : Rws w' v l :=
  ⟨row_part h.1 (fun g hg => ho.block g (hv g hg).1 (hv g hg).2) ho.size, h.2⟩
theorem Lies.grow {w w' : World} {v : Value} {F G : Nat → Prop} (h : Lies w.heap.size F v) (hg : Grow F G w) (hs : w.heap.size ≤ w'.heap.size) : Lies w'.heap.size G v := fun g e =>
  ⟨Nat.lt_of_lt_of_le (h g e).1 hs, fun hG => (hg g hG).elim (h g e).2 (fun hn => by have := (h g e).1; omega)⟩
theorem Lies.size {n m : Nat} {v : Value} {F : Nat → Prop} (h : Lies n F v) (hs : n ≤ m) : Lies m F v := fun g e => ⟨Nat.lt_of_lt_of_le (h g e).1 hs, (h g e).2⟩
theorem lies_new {w w' : World} {v : Value} {F : Nat → Prop} (hF : ∀ k, F k → k < w.heap.size) (h : ∀ g, v.ownBlock = some g → w.heap.size ≤ g ∧ g < w'.heap.size) : Lies w'.heap.size F v := fun g e =>
  ⟨(h g e).2, fun hf => by have := hF g hf; have := (h g e).1; omega⟩
structure Ac where
  k : Int
  v : Int
  p : Pf
def Ac.ok (a : Ac) : Prop := (Lit.int .i64 a.k).wf = true ∧ (Lit.int .i64 a.v).wf = true ∧ a.p.ok
def acell (a : Ac) : List Value := [.int .i64 a.k, .int .i64 a.v, .int .u32 a.p.a, .int .i64 a.p.n]
def acV (a : Ac) : Value := .agg #[.int .i64 a.k, .int .i64 a.v, .int .u32 a.p.a, .int .i64 a.p.n]
def actP (l : List Ent) (a : Ac) : Pf := if a.k = 2 ∧ 0 < l.length ∧ 0 ≤ a.v then ((l[(a.v % (l.length : Int)).toNat]?).map (·.p)).getD a.p else a.p
def doE (l : List Ent) (a : Ac) : List Ent := if a.k = 1 ∨ a.k = 2 then cutE l (actP l a) else if goodP (actP l a) then putE l (actP l a) a.v else l
theorem actP_ok {l : List Ent} {a : Ac} (hl : Eoks l) (ha : a.ok) : (actP l a).ok := by
  unfold actP
  split
  · cases h : l[(a.v % (l.length : Int)).toNat]? with
    | none => exact ha.2.2
    | some e => exact (hl e (List.mem_of_getElem? h)).1
  · exact ha.2.2
theorem put_len : ∀ (l : List Ent) (p : Pf) (x : Int), (putE l p x).length ≤ l.length + 1
  | [], _, _ => by simp [putE]
  | e :: l, p, x => by
    have := put_len l p x
    unfold putE
    split
    · simp
    · split
      · simpa using this
      · simp
theorem doE_len (l : List Ent) (a : Ac) : (doE l a).length ≤ l.length + 1 := by
  unfold doE
  split
  · exact Nat.le_succ_of_le (cut_sub l _).length_le
  · split
    · exact put_len l _ _
    · exact Nat.le_succ _
end Go.Proofs.Ytpcahgnibdampaa.Tri
namespace Go.Proofs.Ytpcahgnibdampaa.Tri
open Go.RowKit Mem PR Pfx Oct
abbrev Tree := World → Nat → Value → Tr → (Nat → Prop) → Prop
def valE (l : List Ent) (p : Pf) : Int := (getE l p).getD 0
def hasE (l : List Ent) (p : Pf) : Bool := (getE l p).isSome
def TurnF (T : Tree) (base : Nat) (v : Value) (l l2 : List Ent) (p : Pf) (F : Nat → Prop) (w : World) (e : Ending) (w' : World) : Prop :=
  ∃ t2 F2, e = .returned (.tuple #[.int .i64 (valE l p), .bool (hasE l p)]) ∧ T w' base v t2 F2 ∧ ents t2 = l2 ∧ Only F w w' ∧ Grow F F2 w
def longV : Option Ent → Value
  | none => .tuple #[.agg #[.int .u32 0, .int .i64 0], .int .i64 0, .bool false]
  | some e => .tuple #[pV e.p, .int .i64 e.v, .bool true]
structure FaceT (T : Tree) : Prop where
  keep : ∀ {W W' : World} {base : Nat} {v : Value} {t : Tr} {F : Nat → Prop}, T W base v t F → (∀ k, F k → W'.heap[k]? = W.heap[k]?) → W.heap.size ≤ W'.heap.size → T W' base v t F
  low : ∀ {W : World} {base : Nat} {v : Value} {t : Tr} {F : Nat → Prop}, T W base v t F → ∀ k, F k → base ≤ k ∧ k < W.heap.size
  wf : ∀ {W : World} {base : Nat} {v : Value} {t : Tr} {F : Nat → Prop}, T W base v t F → WF t
  new : ∀ W, Calls Try.prog 7 #[] W (fun e W' => ∃ b F, e = .returned (.pointer (some ⟨b, 0, none⟩)) ∧ T W' W.heap.size (.pointer (some ⟨b, 0, none⟩)) .nil F ∧ Below W.heap.size W W')
  put : ∀ {W : World} {base : Nat} {v : Value} {t : Tr} {F : Nat → Prop} (p : Pf) (x : Int), T W base v t F → p.ok → (Lit.int .i64 x).wf = true → base ≤ W.heap.size → (ents t).length ≤ 1000 →
    Calls Try.prog 24 #[v, pV p, .int .i64 x] W (TurnF T base v (ents t) (if goodP p then putE (ents t) p x else ents t) p F W)
  cut : ∀ {W : World} {base : Nat} {v : Value} {t : Tr} {F : Nat → Prop} (p : Pf), T W base v t F → p.ok → base ≤ W.heap.size → (ents t).length ≤ 1000 →
    Calls Try.prog 25 #[v, pV p] W (TurnF T base v (ents t) (cutE (ents t) p) p F W)
  get : ∀ {W : World} {base : Nat} {v : Value} {t : Tr} {F : Nat → Prop} (p : Pf), T W base v t F → p.ok → Calls Try.prog 11 #[v, pV p] W (Tells (.tuple #[.int .i64 (valE (ents t) p), .bool (hasE (ents t) p)]) W)
  long : ∀ {W : World} {base : Nat} {v : Value} {t : Tr} {F : Nat → Prop} (a : Nat), T W base v t F → a < 4294967296 → Calls Try.prog 12 #[v, .int .u32 a] W (Tells (longV (longE a none (ents t))) W)
  above : ∀ {W : World} {base : Nat} {v : Value} {t : Tr} {F : Nat → Prop} (p : Pf), T W base v t F → p.ok → (ents t).length ≤ 1000 → Calls Try.prog 15 #[v, pV p] W (GivesP (aboveE (ents t) p) W)
  below : ∀ {W : World} {base : Nat} {v : Value} {t : Tr} {F : Nat → Prop} (p : Pf), T W base v t F → p.ok → (ents t).length ≤ 1000 → Calls Try.prog 17 #[v, pV p] W (GivesP (belowE (ents t) p) W)
  all : ∀ {W : World} {base : Nat} {v : Value} {t : Tr} {F : Nat → Prop}, T W base v t F → (ents t).length ≤ 1000 → Calls Try.prog 20 #[v] W (GivesP (keys (ents t)) W)
  len : ∀ {W : World} {base : Nat} {v : Value} {t : Tr} {F : Nat → Prop}, T W base v t F → (ents t).length ≤ 1000 → Calls Try.prog 19 #[v] W (Tells (.int .i64 (ents t).length) W)
  count : ∀ {W : World} {base : Nat} {v : Value} {t : Tr} {F : Nat → Prop} (p : Pf), T W base v t F → p.ok → (ents t).length ≤ 1000 → Calls Try.prog 18 #[v, pV p] W (Tells (.int .i64 ((belowE (ents t) p).length + (if hasE (ents t) p then 1 else 0) : Nat)) W)
  nodes : ∀ {W : World} {base : Nat} {v : Value} {t : Tr} {F : Nat → Prop}, T W base v t F → (ents t).length ≤ 1000 → Calls Try.prog 23 #[v] W (Tells (.int .i64 (size t)) W)
  check : ∀ {W : World} {base : Nat} {v : Value} {t : Tr} {F : Nat → Prop}, T W base v t F → (ents t).length ≤ 1000 → Calls Try.prog 22 #[v] W (Tells (.bool true) W)
end Go.Proofs.Ytpcahgnibdampaa.Tri
namespace Go.Proofs.Ytpcahgnibdampaa.Tri
open Go.RowKit Mem PR Pfx Oct
def acells (l : List Ac) : List Value := l.flatMap acell
theorem acells_cons (e : Ac) (l : List Ac) : acells (e :: l) = acell e ++ acells l := by simp [acells]
theorem acells_at : ∀ (i : Nat) (l : List Ac) (p : Ac), l[i]? = some p → ∀ j u, (acell p)[j]? = some u → (acells l)[i * 4 + j]? = some u
  | 0, b :: l, p, h, j, u, hu => by
    simp at h
    subst h
    have hj : j < 4 := by have := (List.getElem?_eq_some_iff.1 hu).1; simpa [acell] using this
    rw [acells_cons, List.getElem?_append_left (by simp [acell]; omega), Nat.zero_mul, Nat.zero_add]
    exact hu
  | i + 1, b :: l, p, h, j, u, hu => by
    have h2 := acells_at i l p (by simpa using h) j u hu
    rw [acells_cons, List.getElem?_append_right (by simp [acell]; omega), show (i + 1) * 4 + j - (acell b).length = i * 4 + j by simp [acell]; omega]
    exact h2
  | 0, [], p, h, _, _, _ => by simp at h
  | i + 1, [], p, h, _, _, _ => by simp at h
def Acts (w : World) (v : Value) (l : List Ac) : Prop := Row w 4 v l.length (acells l) ∧ ∀ a ∈ l, a.ok
section
variable {w w' : World} {v : Value} {l : List Ac}
theorem Acts.keep (h : Acts w v l) (hb : Below w.heap.size w w') : Acts w' v l := ⟨h.1.keep hb, h.2⟩
theorem Acts.form (h : Acts w v l) : ∃ A c, v = .slice A l.length c ∧ l.length ≤ c ∧ c ≤ 9223372036854775807 := by
  obtain ⟨⟨_, A, c, rfl, h1, h2, _⟩, _⟩ := h
  exact ⟨A, c, rfl, h1, h2⟩
theorem Acts.at_ {A : Option Addr} {n c i : Nat} {e : Ac} (h : Acts w (.slice A n c) l) (hi : l[i]? = some e) :
    ∃ b off, A = some ⟨b, off, none⟩ ∧ b < w.heap.size ∧ w.cell? ⟨b, off + i * 4, none⟩ = some (.int .i64 e.k) ∧ w.cell? ⟨b, off + i * 4 + 1, none⟩ = some (.int .i64 e.v) ∧ w.cell? ⟨b, off + i * 4 + 2, none⟩ = some (.int .u32 e.p.a) ∧ w.cell? ⟨b, off + i * 4 + 3, none⟩ = some (.int .i64 e.p.n) := by
  obtain ⟨⟨_, A', c', e0, _, _, hr⟩, _⟩ := h
  injection e0 with e1 e2 e3
  subst e1 e3
  have hlt := (List.getElem?_eq_some_iff.1 hi).1
  obtain ⟨b, off, rfl, hb, hc⟩ := hr (by omega)
  have k := fun j u hu => hc (i * 4 + j) u (acells_at i l e hi j u hu)
  refine ⟨b, off, rfl, hb, k 0 _ rfl, ?_, ?_, ?_⟩
  · rw [Nat.add_assoc]; exact k 1 _ rfl
  · rw [Nat.add_assoc]; exact k 2 _ rfl
  · rw [Nat.add_assoc]; exact k 3 _ rfl
end
end Go.Proofs.Ytpcahgnibdampaa.Tri
namespace Go.Proofs.Ytpcahgnibdampaa.Tri
open Go.RowKit Mem PR Pfx Oct
inductive MT where
  | nil : MT
  | node : Nat → Pf → Int → Bool → Int → MT → MT → MT
def ptr : MT → Value
  | .nil => .pointer none
  | .node b _ _ _ _ _ _ => .pointer (some ⟨b, 0, none⟩)
def ncell (q : Pf) (x : Int) (h : Bool) (c : Int) (k0 k1 : Value) : Array Value := #[.int .u32 q.a, .int .i64 q.n, .int .i64 x, .bool h, .int .i64 c, k0, k1]
def Nd (W : World) (b : Nat) (q : Pf) (x : Int) (h : Bool) (c : Int) (k0 k1 : Value) : Prop := W.heap[b]? = some (.cells (ncell q x h c k0 k1) 64)
def Mt (W : World) : MT → Prop
  | .nil => True
  | .node b q x h c s t => Nd W b q x h c (ptr s) (ptr t) ∧ Mt W s ∧ Mt W t
def cnt : MT → Nat → Nat
  | .nil, _ => 0
  | .node b _ _ _ _ s t, a => (if b = a then 1 else 0) + cnt s a + cnt t a
def msize : MT → Nat
  | .nil => 0
  | .node _ _ _ _ _ s t => 1 + msize s + msize t
structure Fr where
  b : Nat
  q : Pf
  x : Int
  h : Bool
  c : Int
  i : Bool
  sib : MT
def Fr.put (f : Fr) (m : MT) : MT := if f.i then .node f.b f.q f.x f.h f.c f.sib m else .node f.b f.q f.x f.h f.c m f.sib
def plug : List Fr → MT → MT
  | [], m => m
  | f :: fs, m => plug fs (f.put m)
def hereA (tb : Nat) : List Fr → Addr
  | [] => ⟨tb, 0, none⟩
  | f :: _ => ⟨f.b, if f.i then 6 else 5, none⟩
def cntC : List Fr → Nat → Nat
  | [], _ => 0
  | f :: fs, a => (if f.b = a then 1 else 0) + cnt f.sib a + cntC fs a
def Fr.nd (f : Fr) (W : World) (v : Value) : Prop := if f.i then Nd W f.b f.q f.x f.h f.c (ptr f.sib) v else Nd W f.b f.q f.x f.h f.c v (ptr f.sib)
def MtC (W : World) : List Fr → Value → Prop
  | [], _ => True
  | f :: fs, v => f.nd W v ∧ Mt W f.sib ∧ MtC W fs (.pointer (some ⟨f.b, 0, none⟩))
theorem hereA_cons (tb : Nat) (f : Fr) (fs : List Fr) : hereA tb (f :: fs) = ⟨f.b, if f.i then 6 else 5, none⟩ := rfl
theorem Fr.cnt_put (f : Fr) (m : MT) (a : Nat) : cnt (f.put m) a = (if f.b = a then 1 else 0) + cnt f.sib a + cnt m a := by
  unfold Fr.put
  split <;> simp only [cnt] <;> omega
theorem Fr.ptr_put (f : Fr) (m : MT) : ptr (f.put m) = .pointer (some ⟨f.b, 0, none⟩) := by
  unfold Fr.put
  split <;> rfl
theorem Fr.mt_put (f : Fr) (m : MT) (W : World) : Mt W (f.put m) ↔ f.nd W (ptr m) ∧ Mt W f.sib ∧ Mt W m := by
  unfold Fr.put Fr.nd
  split
  · exact ⟨fun h => ⟨h.1, h.2.1, h.2.2⟩, fun h => ⟨h.1, h.2.1, h.2.2⟩⟩
  · exact ⟨fun h => ⟨h.1, h.2.2, h.2.1⟩, fun h => ⟨h.1, h.2.2, h.2.1⟩⟩
theorem cnt_plug : ∀ (fs : List Fr) (m : MT) (a : Nat), cnt (plug fs m) a = cntC fs a + cnt m a
  | [], m, a => by simp [plug, cntC]
  | f :: fs, m, a => by
    show cnt (plug fs (f.put m)) a = _
    rw [cnt_plug fs, f.cnt_put]
    simp only [cntC]; omega
theorem mt_plug : ∀ (fs : List Fr) (m : MT) (W : World), Mt W (plug fs m) ↔ MtC W fs (ptr m) ∧ Mt W m
  | [], m, W => by simp [plug, MtC]
  | f :: fs, m, W => by
    show Mt W (plug fs (f.put m)) ↔ _
    rw [mt_plug fs, f.mt_put, f.ptr_put]
    simp only [MtC]
    exact ⟨fun h => ⟨⟨h.2.1, h.2.2.1, h.1⟩, h.2.2.2⟩, fun h => ⟨h.1.2.2, h.1.1, h.1.2.1, h.2⟩⟩
theorem Mt.keep {W W' : World} : ∀ {m : MT}, Mt W m → (∀ k, 0 < cnt m k → W'.heap[k]? = W.heap[k]?) → Mt W' m
  | .nil, _, _ => trivial
  | .node b q x h c s t, hm, hk => by
    obtain ⟨h1, h2, h3⟩ := hm
    simp only [cnt] at hk
    exact ⟨(hk b (by simp; omega)).trans h1, h2.keep (fun k h => hk k (by omega)), h3.keep (fun k h => hk k (by omega))⟩
theorem MtC.keep {W W' : World} : ∀ {fs : List Fr} {v : Value}, MtC W fs v → (∀ k, 0 < cntC fs k → W'.heap[k]? = W.heap[k]?) → MtC W' fs v
  | [], _, _, _ => trivial
  | f :: fs, v, hm, hk => by
    obtain ⟨h1, h2, h3⟩ := hm
    simp only [cntC] at hk
    have hb := hk f.b (by simp; omega)
    refine ⟨?_, h2.keep (fun k h => hk k (by omega)), h3.keep (fun k h => hk k (by omega))⟩
    unfold Fr.nd Nd at h1 ⊢
    rw [hb]; exact h1
theorem Mt.low {W : World} : ∀ {m : MT}, Mt W m → ∀ k, 0 < cnt m k → k < W.heap.size
  | .nil, _, k, hk => absurd hk (Nat.lt_irrefl 0)
  | .node b q x h c s t, hm, k, hk => by
    obtain ⟨h1, h2, h3⟩ := hm
    simp only [cnt] at hk
    by_cases e : b = k
    · subst e
      rcases Nat.lt_or_ge b W.heap.size with h | h
      · exact h
      · unfold Nd at h1; rw [Array.getElem?_eq_none h] at h1; cases h1
    · rw [if_neg e] at hk
      rcases Nat.lt_or_ge 0 (cnt s k) with h4 | h4
      · exact h2.low k h4
      · exact h3.low k (by omega)
def TreeM (W : World) (tb : Nat) (m : MT) : Prop :=
  W.heap[tb]? = some (.cells #[ptr m] 55) ∧ Mt W m ∧ ∀ a, (if tb = a then 1 else 0) + cnt m a ≤ 1
def Blks (tb : Nat) (m : MT) (k : Nat) : Prop := k = tb ∨ 0 < cnt m k
theorem TreeM.keep {W W' : World} {tb : Nat} {m : MT} (h : TreeM W tb m) (hk : ∀ k, Blks tb m k → W'.heap[k]? = W.heap[k]?) : TreeM W' tb m :=
  ⟨(hk tb (.inl rfl)).trans h.1, h.2.1.keep (fun k hc => hk k (.inr hc)), h.2.2⟩
theorem TreeM.low {W : World} {tb : Nat} {m : MT} (h : TreeM W tb m) : ∀ k, Blks tb m k → k < W.heap.size := fun k hk => by
  rcases hk with rfl | hk
  · rcases Nat.lt_or_ge k W.heap.size with h1 | h1
    · exact h1
    · have := h.1; rw [Array.getElem?_eq_none h1] at this; cases this
  · exact h.2.1.low k hk
theorem TreeM.below {W W' : World} {tb : Nat} {m : MT} (h : TreeM W tb m) (hb : Below W.heap.size W W') : TreeM W' tb m := h.keep (fun k hk => hb.block k (h.low k hk))
theorem cell_at {W : World} {b : Nat} {A : Array Value} {t : TypeId} {i : Nat} {v : Value} (h : W.heap[b]? = some (.cells A t)) (hv : A[i]? = some v) : W.cell? ⟨b, i, none⟩ = some v := by
  rw [cell_of_row W b i A t (0, 0) h, hv]
theorem Nd.cells {W : World} {b : Nat} {q : Pf} {x : Int} {h : Bool} {c : Int} {k0 k1 : Value} (hn : Nd W b q x h c k0 k1) :
    W.cell? ⟨b, 0, none⟩ = some (.int .u32 q.a) ∧ W.cell? ⟨b, 1, none⟩ = some (.int .i64 q.n) ∧ W.cell? ⟨b, 2, none⟩ = some (.int .i64 x) ∧ W.cell? ⟨b, 3, none⟩ = some (.bool h) ∧ W.cell? ⟨b, 4, none⟩ = some (.int .i64 c) ∧ W.cell? ⟨b, 5, none⟩ = some k0 ∧ W.cell? ⟨b, 6, none⟩ = some k1 :=
  ⟨cell_at hn rfl, cell_at hn rfl, cell_at hn rfl, cell_at hn rfl, cell_at hn rfl, cell_at hn rfl, cell_at hn rfl⟩
theorem Nd.low {W : World} {b : Nat} {q : Pf} {x : Int} {h : Bool} {c : Int} {k0 k1 : Value} (hn : Nd W b q x h c k0 k1) : b < W.heap.size := by
  rcases Nat.lt_or_ge b W.heap.size with h1 | h1
  · exact h1
  · unfold Nd at hn; rw [Array.getElem?_eq_none h1] at hn; cases hn
theorem here_cell {W : World} {tb : Nat} {fs : List Fr} {m : MT} (h : TreeM W tb (plug fs m)) : W.cell? (hereA tb fs) = some (ptr m) := by
  obtain ⟨h1, h2, -⟩ := h
  cases fs with
  | nil => exact cell_at h1 rfl
  | cons f fs =>
    have h3 := (((mt_plug (f :: fs) m W).1 h2).1).1
    unfold Fr.nd at h3
    rw [hereA_cons]
    split at h3
    · rename_i hi; rw [if_pos hi]; exact cell_at h3 rfl
    · rename_i hi; rw [if_neg hi]; exact cell_at h3 rfl
theorem here_froz {W : World} {tb : Nat} {fs : List Fr} {m : MT} (h : TreeM W tb (plug fs m)) : W.frozen? (hereA tb fs) = false := by
  obtain ⟨h1, h2, -⟩ := h
  cases fs with
  | nil => exact frozen_of_row W tb 0 _ _ h1
  | cons f fs =>
    have h3 := (((mt_plug (f :: fs) m W).1 h2).1).1
    unfold Fr.nd at h3
    rw [hereA_cons]
    split at h3
    · exact frozen_of_row W f.b _ _ _ h3
    · exact frozen_of_row W f.b _ _ _ h3
theorem heap_set {W : World} {b i : Nat} {A : Array Value} {t : TypeId} (u : Value) (h : W.heap[b]? = some (.cells A t)) : (W.setCell ⟨b, i, none⟩ u).heap[b]? = some (.cells (A.setIfInBounds i u) t) := by
  rw [Go.Joins.block_setCell h]
theorem hang {W : World} {tb : Nat} {fs : List Fr} {m m2 : MT} (h : TreeM W tb (plug fs m)) (h2 : Mt W m2) (hs : ∀ a, (if tb = a then 1 else 0) + cnt (plug fs m2) a ≤ 1) : TreeM (W.setCell (hereA tb fs) (ptr m2)) tb (plug fs m2) := by
  obtain ⟨k1, k2, -⟩ := h
  cases fs with
  | nil =>
    refine ⟨heap_set (ptr m2) k1, ?_, hs⟩
    refine Mt.keep (m := m2) h2 (fun k hk => Go.RowKit.Below.heap_setCell _ _ _ _ (fun e => ?_))
    have e2 : tb = k := e.symm
    have h3 := hs k
    rw [if_pos e2] at h3
    have h4 : cnt (plug [] m2) k = cnt m2 k := rfl
    omega
  | cons f fs =>
    have k3 := ((mt_plug (f :: fs) m W).1 k2).1
    obtain ⟨g1, g2, g3⟩ := k3
    have hc := fun a => cnt_plug (f :: fs) m2 a
    have hb := hs f.b
    rw [hc f.b] at hb
    simp only [cntC, if_pos] at hb
    have hne : tb ≠ f.b := fun e => by rw [if_pos e] at hb; omega
    have hoth : ∀ k, k ≠ f.b → (W.setCell (hereA tb (f :: fs)) (ptr m2)).heap[k]? = W.heap[k]? := fun k hk => Go.RowKit.Below.heap_setCell _ _ _ _ hk
    have hne2 : ∀ k, (0 < cnt m2 k ∨ 0 < cnt f.sib k ∨ 0 < cntC fs k) → k ≠ f.b := fun k hk e => by
      subst e; omega
    refine ⟨?_, ?_, hs⟩
    · rw [hoth tb hne, k1]
      have : ∀ m, ptr (plug (f :: fs) m) = ptr (plug (f :: fs) .nil) := fun m => by
        cases fs with
        | nil => show ptr (f.put m) = ptr (f.put .nil); rw [f.ptr_put, f.ptr_put]
        | cons g gs =>
          have : ∀ (gs : List Fr) (g : Fr) (a b : MT), ptr (plug (g :: gs) a) = ptr (plug (g :: gs) b) := by
            intro gs
            induction gs with
            | nil => intro g a b; show ptr (g.put a) = ptr (g.put b); rw [g.ptr_put, g.ptr_put]
            | cons e es ih => intro g a b; exact ih e (g.put a) (g.put b)
          exact this gs g (f.put m) (f.put .nil)
      rw [this m, this m2]
    · rw [mt_plug]
      refine ⟨⟨?_, g2.keep (fun k hk => hoth k (hne2 k (.inr (.inl hk)))), g3.keep (fun k hk => hoth k (hne2 k (.inr (.inr hk))))⟩, Mt.keep h2 (fun k hk => hoth k (hne2 k (.inl hk)))⟩
      unfold Fr.nd at g1 ⊢
      rw [hereA_cons]
      split at g1
      · rename_i hi
        rw [if_pos hi, if_pos hi]; exact heap_set (ptr m2) g1
      · rename_i hi
        rw [if_neg hi, if_neg hi]; exact heap_set (ptr m2) g1
def tr : MT → Tr
  | .nil => .nil
  | .node _ q x h _ s t => .node q (if h then some x else none) (tr s) (tr t)
def Fit : MT → Prop
  | .nil => True
  | .node b q x h c s t => c = ((ents (tr (.node b q x h c s t))).length : Int) ∧ (h = false → x = 0) ∧ Fit s ∧ Fit t
def TT : World → Nat → Value → Tr → (Nat → Prop) → Prop := fun W base v t F =>
  ∃ tb m, v = .pointer (some ⟨tb, 0, none⟩) ∧ TreeM W tb m ∧ tr m = t ∧ WF t ∧ Fit m ∧ (∀ k, F k ↔ Blks tb m k) ∧ ∀ k, F k → base ≤ k
theorem least_ex {P : Nat → Prop} (h : ∃ n, P n) : ∃ n, P n ∧ ∀ m, P m → n ≤ m := by
  obtain ⟨n, hn⟩ := h
  induction n using Nat.strongRecOn with
  | _ n ih =>
    by_cases hx : ∃ m, m < n ∧ P m
    · obtain ⟨m, h1, h2⟩ := hx; exact ih m h1 h2
    · exact ⟨n, hn, fun m hm => by
        rcases Nat.lt_or_ge m n with h1 | h1
        · exact absurd ⟨m, h1, hm⟩ hx
        · exact h1⟩
open Classical in
noncomputable def least (P : Nat → Prop) : Nat := if h : ∃ n, P n then Classical.choose (least_ex h) else 0
theorem least_is {P : Nat → Prop} (h : ∃ n, P n) : P (least P) := by
  unfold least; rw [dif_pos h]; exact (Classical.choose_spec (least_ex h)).1
theorem least_le {P : Nat → Prop} {n : Nat} (h : P n) : least P ≤ n := by
  unfold least; rw [dif_pos ⟨n, h⟩]; exact (Classical.choose_spec (least_ex ⟨n, h⟩)).2 n h
end Go.Proofs.Ytpcahgnibdampaa.Tri
