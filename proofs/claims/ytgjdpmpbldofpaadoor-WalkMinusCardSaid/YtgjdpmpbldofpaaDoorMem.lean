/- Words for memory: a slice that reads as a list of cells, wherever it lies, nil let in; how such a reading is kept. It speaks of no function of the program. -/
import Derived.Test.YtgjdpmpbldofpaaDoorProg
import Derived.Below
import Derived.WalkKit
import Derived.Laws.OwnMore
import Derived.Deep.AppendLies
import Derived.Deep.Draws
import Derived.OwnWalk
import Derived.Sort.Grow
import Derived.Lib.Hide
namespace Go.Proofs.YtgjdpmpbldofpaaDoor.Mem
open Go.RowKit

/-- The slice value v has n elements of 'size' cells each; in w they read as cs. -/
def Row (w : World) (size : Nat) (v : Value) (n : Nat) (cs : List Value) : Prop :=
  cs.length = n * size ∧ ∃ A c, v = .slice A n c ∧ n ≤ c ∧ c ≤ maxLen ∧
    (0 < n → ∃ b off, A = some ⟨b, off, none⟩ ∧ b < w.heap.size ∧ ∀ i x, cs[i]? = some x → w.cell? ⟨b, off + i, none⟩ = some x)

section
variable {w w' : World} {size n : Nat} {v : Value} {cs : List Value}
theorem Row.keep (h : Row w size v n cs) (hb : Below w.heap.size w w') : Row w' size v n cs := by
  obtain ⟨hl, A, c, rfl, hn, hc, hr⟩ := h
  refine ⟨hl, A, c, rfl, hn, hc, fun h0 => ?_⟩
  obtain ⟨b, off, hA, hlt, hcell⟩ := hr h0
  exact ⟨b, off, hA, Nat.lt_of_lt_of_le hlt hb.size, fun i x hx => (hb.cell (p := ⟨b, off + i, none⟩) hlt).trans (hcell i x hx)⟩
theorem Row.nil (w : World) (size : Nat) : Row w size (.slice none 0 0) 0 [] :=
  ⟨by simp, none, 0, rfl, Nat.le_refl _, Nat.zero_le _, fun h => absurd h (Nat.lt_irrefl _)⟩
theorem Row.of_own {base : Nat} {e : TypeId} (h : w.ownsRow base e size v n cs) : Row w size v n cs := by
  obtain ⟨hl, h⟩ := h
  rcases h with ⟨rfl, rfl⟩ | ⟨g, cap, cur, rfl, _, hg, hn, hm, hs, ht⟩
  · exact ⟨hl, none, 0, rfl, Nat.le_refl _, Nat.zero_le _, fun h => absurd h (Nat.lt_irrefl _)⟩
  · have hlt : g < w.heap.size := by
      rcases Nat.lt_or_ge g w.heap.size with h | h
      · exact h
      · rw [Array.getElem?_eq_none h] at hg; cases hg
    refine ⟨hl, some ⟨g, 0, none⟩, cap, rfl, hn, hm, fun _ => ⟨g, 0, rfl, hlt, fun i x hx => ?_⟩⟩
    rw [cell_of_row w g (0 + i) cur e (0, 0) hg, Nat.zero_add]
    rw [← ht, List.getElem?_take] at hx
    split at hx
    · simpa using hx
    · cases hx
theorem Row.len (h : Row w size v n cs) : n ≤ 9223372036854775807 := by
  obtain ⟨_, _, c, _, hn, hc, _⟩ := h
  unfold maxLen at hc
  omega
/-- The first k elements. -/
theorem Row.prefix_ {A : Option Addr} {c k : Nat} (h : Row w size (.slice A n c) n cs) (hk : k ≤ n) : Row w size (.slice A k c) k (cs.take (k * size)) := by
  obtain ⟨hl, A', c', e, hn, hc, hr⟩ := h
  injection e with e1 e2 e3
  subst e1 e3
  have hm : k * size ≤ n * size := Nat.mul_le_mul_right _ hk
  refine ⟨by rw [List.length_take, hl]; omega, A, c, rfl, by omega, hc, fun h0 => ?_⟩
  obtain ⟨b, off, hA, hlt, hcell⟩ := hr (by omega)
  refine ⟨b, off, hA, hlt, fun i x hx => hcell i x ?_⟩
  rw [List.getElem?_take] at hx
  split at hx
  · exact hx
  · cases hx
/-- The elements from the k-th one on: as the model cuts. -/
theorem Row.cut {A : Option Addr} {c k : Nat} (h : Row w size (.slice A n c) n cs) (hk : k ≤ n) :
    Row w size (.slice (if c = k then A else A.map (·.add (k * size))) (n - k) (c - k)) (n - k) (cs.drop (k * size)) := by
  obtain ⟨hl, A', c', e, hn, hc, hr⟩ := h
  injection e with e1 e2 e3
  subst e1 e3
  refine ⟨by rw [List.length_drop, hl, Nat.sub_mul], _, _, rfl, by omega, by omega, fun h0 => ?_⟩
  obtain ⟨b, off, rfl, hlt, hcell⟩ := hr (by omega)
  rw [if_neg (by omega)]
  refine ⟨b, off + k * size, ?_, hlt, fun i x hx => ?_⟩
  · simp only [Option.map]
    unfold Addr.add
    split
    · rename_i h0; rw [h0]; rfl
    · rfl
  · rw [Nat.add_assoc]
    exact hcell _ x (by rw [← hx, List.getElem?_drop])
theorem Row.cut1 {A : Option Addr} {c k : Nat} (h : Row w 1 (.slice A n c) n cs) (hk : k ≤ n) :
    Row w 1 (.slice (if c = k then A else A.map (fun x => x.add k)) (n - k) (c - k)) (n - k) (cs.drop k) := by
  have := h.cut hk
  rwa [Nat.mul_one] at this
/-- .. as the walk spells it, of one cell an element. -/
theorem Row.cut_at {b off c k : Nat} (h : Row w 1 (.slice (some ⟨b, off, none⟩) n c) n cs) (hk : k ≤ n) :
    Row w 1 (.slice (if c = k then some ⟨b, off, none⟩ else some ⟨b, off + k, none⟩) (n - k) (c - k)) (n - k) (cs.drop k) := by
  have := h.cut hk
  rw [Nat.mul_one] at this
  have e : (if c = k then some (⟨b, off, none⟩ : Addr) else (some (⟨b, off, none⟩ : Addr)).map (·.add k)) = if c = k then some ⟨b, off, none⟩ else some ⟨b, off + k, none⟩ := by
    split
    · rfl
    · simp only [Option.map]
      unfold Addr.add
      split
      · rename_i h0; rw [h0]; rfl
      · rfl
  rwa [e] at this
end

/-- A slice of numbers of 32 bits. -/
def U32s (w : World) (v : Value) (l : List Nat) : Prop := Row w 1 v l.length (l.map fun n : Nat => Value.int .u32 n) ∧ ∀ n ∈ l, n < 4294967296
section
variable {w w' : World} {v : Value} {l : List Nat}
theorem U32s.keep (h : U32s w v l) (hb : Below w.heap.size w w') : U32s w' v l := ⟨h.1.keep hb, h.2⟩
theorem U32s.nil (w : World) : U32s w (.slice none 0 0) [] := ⟨Row.nil w 1, by simp⟩
theorem U32s.of_own {base : Nat} {e : TypeId} (h : w.ownsRow base e 1 v l.length (l.map fun n : Nat => Value.int .u32 n)) (hl : ∀ n ∈ l, n < 4294967296) : U32s w v l := ⟨Row.of_own h, hl⟩
/-- The slice laid open: its address, its capacity, and each element's cell. -/
theorem U32s.open_ (h : U32s w v l) : ∃ A c, v = .slice A l.length c ∧ l.length ≤ c ∧ c ≤ 9223372036854775807 ∧ (∀ n ∈ l, n < 4294967296) ∧
    ∀ k, k < l.length → ∃ b off x, A = some ⟨b, off, none⟩ ∧ b < w.heap.size ∧ l[k]? = some x ∧ x < 4294967296 ∧ w.cell? ⟨b, off + k, none⟩ = some (.int .u32 x) := by
  obtain ⟨⟨_, A, c, rfl, hn, hc, hr⟩, hl⟩ := h
  refine ⟨A, c, rfl, hn, hc, hl, fun k hk => ?_⟩
  obtain ⟨b, off, hA, hlt, hcell⟩ := hr (by omega)
  refine ⟨b, off, l[k], hA, hlt, List.getElem?_eq_getElem hk, hl _ (List.getElem_mem hk), hcell k _ ?_⟩
  rw [List.getElem?_map, List.getElem?_eq_getElem hk]; rfl
end

theorem U32s.at_ {w : World} {l : List Nat} {A : Option Addr} {n c k : Nat} (h : U32s w (.slice A n c) l) (hk : k < l.length) :
    ∃ b off x, A = some ⟨b, off, none⟩ ∧ b < w.heap.size ∧ l[k]? = some x ∧ x < 4294967296 ∧ w.cell? ⟨b, off + k, none⟩ = some (.int .u32 x) := by
  obtain ⟨A', c', e, _, _, _, hat⟩ := h.open_
  injection e with e1
  subst e1
  exact hat k hk

/-- A slice of at least one number: its first one, and what is behind it. -/
theorem U32s.head {w : World} {x : Nat} {l : List Nat} {A : Option Addr} {n c : Nat} (h : U32s w (.slice A n c) (x :: l)) :
    ∃ b off, A = some ⟨b, off, none⟩ ∧ b < w.heap.size ∧ x < 4294967296 ∧ w.cell? ⟨b, off, none⟩ = some (.int .u32 x) ∧ n = l.length + 1 ∧ l.length + 1 ≤ c ∧ c ≤ 9223372036854775807 ∧
      U32s w (.slice (if c = 1 then some ⟨b, off, none⟩ else some ⟨b, off + 1, none⟩) l.length (c - 1)) l := by
  have h2 := h
  obtain ⟨⟨_, A', c', e, hn, hc, hr⟩, hl⟩ := h
  injection e with e1 e2 e3
  subst e1 e3
  simp only [List.length_cons] at hn e2 hr
  subst e2
  obtain ⟨b, off, rfl, hlt, hcell⟩ := hr (by omega)
  have hR := Row.cut_at (k := 1) (n := l.length + 1) h2.1 (by omega)
  simp only [Nat.add_sub_cancel, List.map_cons, List.drop_succ_cons, List.drop_zero] at hR
  exact ⟨b, off, rfl, hlt, hl x (by simp), by have := hcell 0 (.int .u32 x) (by simp); simpa using this, rfl, hn, hc, by simpa using hR, fun y hy => hl y (by simp [hy])⟩
theorem U32s.empty {w : World} {v : Value} (h : U32s w v []) : ∃ A c, v = .slice A 0 c := by
  obtain ⟨A, c, rfl, _⟩ := h.open_
  exact ⟨A, c, rfl⟩

/-- What an element's type is, in the program's tables. -/
structure IsElem (P : Program) (t e : TypeId) (size bytes : Nat) (i : TypeInfo) (z : Value) : Prop where
  ht : P.underlying t = some (.slice e)
  hi : P.info? e = some i
  hz : i.zero = some z
  hsize : i.size = size
  hby : i.bytes = bytes
  hzs : z.cells.size = size
  pos : 0 < size
theorem IsElem.mk_ {P : Program} {t e : TypeId} {size bytes : Nat} {z : Value} (ht : P.underlying t = some (.slice e)) (h : (P.info? e).map (fun i => (i.zero, i.size, i.bytes)) = some (some z, size, bytes)) (hzs : z.cells.size = size) (pos : 0 < size) :
    ∃ i, IsElem P t e size bytes i z := by
  obtain ⟨i, hi, h0, h1, h2⟩ := info_parts h
  exact ⟨i, ht, hi, h0, h1, h2, hzs, pos⟩

section
variable {P : Program} {w : World} {t e : TypeId} {size bytes : Nat} {i : TypeInfo} {z : Value}
theorem below_of_grown {w' : World} {base : Nat} {v : Value} {n : Nat} {xs : List Value} (hown : w.ownsRow base e size v n xs) (hg : w.grownBy w' v.ownBlock) (hb : base ≤ w.heap.size) : Below base w w' :=
  ⟨hg.os, hg.tape, hg.output, hg.size, fun k hk => hg.block k (Nat.lt_of_lt_of_le hk hb) fun he => by have := (hown.lt k he.symm).1; omega⟩

theorem own_form {base : Nat} {v : Value} {n : Nat} {xs : List Value} (h : w.ownsRow base e size v n xs) : ∃ A c, v = .slice A n c := by
  rcases h.2 with ⟨rfl, rfl⟩ | ⟨g, cap, cur, rfl, _⟩
  · exact ⟨_, _, rfl⟩
  · exact ⟨_, _, rfl⟩
/-- append onto a row of the call's own, whatever slice is appended: nil, empty or not. -/
theorem run_append_row (E : IsElem P t e size bytes i z) (base : Nat) (ty : TypeId) (v : Value) (n : Nat) (xs : List Value) (hown : w.ownsRow base e size v n xs) (x : Value) (m : Nat) (news : List Value)
    (hr : Row w size x m news) (h1 : ∀ u ∈ news, u.oneCell' = true) (h63 : n + m ≤ maxLen) (hbytes : (n + m) * bytes ≤ 140737488355328) (hbase : base ≤ w.heap.size) :
    ∃ A' c' w', (Builtin.append_ #[t, t] ty #[v, x]).run P w = .ok (.slice A' (n + m) c') w' ∧ w'.ownsRow base e size (.slice A' (n + m) c') (n + m) (xs ++ news) ∧ w.grownBy w' v.ownBlock ∧ ((Value.slice A' (n + m) c').ownBlock = v.ownBlock ∨ (Value.slice A' (n + m) c').ownBlock = some w.heap.size) := by
  suffices h : ∃ v' w', (Builtin.append_ #[t, t] ty #[v, x]).run P w = .ok v' w' ∧ w'.ownsRow base e size v' (n + m) (xs ++ news) ∧ w.grownBy w' v.ownBlock ∧ (v'.ownBlock = v.ownBlock ∨ v'.ownBlock = some w.heap.size) by
    obtain ⟨v', w', h1, h2, h3, h4⟩ := h
    obtain ⟨A', c', rfl⟩ := own_form h2
    exact ⟨A', c', w', h1, h2, h3, h4⟩
  obtain ⟨hl, A, c, rfl, hmc, hc, hcell⟩ := hr
  cases A with
  | none =>
    have h0 : m = 0 := by
      rcases Nat.eq_zero_or_pos m with h | h
      · exact h
      · obtain ⟨_, _, h, _⟩ := hcell h
        cases h
    subst h0
    have hn : news = [] := List.eq_nil_of_length_eq_zero (by simpa using hl)
    subst hn
    refine ⟨v, w, ?_, by simpa using hown, World.grownBy.refl w _, .inl rfl⟩
    rcases hown.2 with ⟨rfl, rfl⟩ | ⟨g, cap, cur, rfl, _, _, hnc, _⟩
    · simp [Builtin.append_, run_underlying E.ht, sizeOf, typeInfo, E.hi, Builtin.lenOf, Builtin.firstCells]
    · simp [Builtin.append_, run_underlying E.ht, sizeOf, typeInfo, E.hi, Builtin.lenOf, Builtin.firstCells, hnc, storeCells]
  | some ad =>
    have hnews : ∀ j u, news[j]? = some u → w.cell? (ad.add j) = some u := fun j u hu => by
      rcases Nat.eq_zero_or_pos m with h | h
      · subst h
        have hn : news = [] := List.eq_nil_of_length_eq_zero (by simpa using hl)
        rw [hn] at hu
        simp at hu
      · obtain ⟨b, off, ha, _, hc⟩ := hcell h
        injection ha with ha
        subst ha
        have := hc j u hu
        unfold Addr.add
        split
        · rename_i h0; rw [h0] at this; exact this
        · exact this
    obtain ⟨v', w', hrun, h2, h3, _, h5⟩ := run_append_own_at (P := P) w base t ty e i z size bytes E.ht E.hi E.hz E.hsize E.hby E.hzs E.pos v n xs hown ad m c news hl hnews h1 h63 hbytes hbase
    exact ⟨v', w', hrun, h2, h3, h5⟩

theorem wp_append_row {o : Oper} {a : Act} {K : Act → World → Prop} {Q : Exit → Act → World → Prop} (s y : Operand)
    (ho : o.op = .call { callee := .builtin .append, args := #[s, y], argTypes := #[t, t] }) (E : IsElem P t e size bytes i z)
    (base : Nat) (v : Value) (n : Nat) (xs : List Value) (hs : a.eval s = v) (hown : w.ownsRow base e size v n xs) (x : Value) (m : Nat) (news : List Value) (hx : a.eval y = x)
    (hr : Row w size x m news) (h1 : ∀ u ∈ news, u.oneCell' = true) (h63 : n + m ≤ maxLen) (hbytes : (n + m) * bytes ≤ 140737488355328) (hbase : base ≤ w.heap.size)
    (N : Nat) (hN : n + m = N)
    (h : ∀ A' c' w', w'.ownsRow base e size (.slice A' N c') N (xs ++ news) → w.grownBy w' v.ownBlock → ((Value.slice A' N c').ownBlock = v.ownBlock ∨ (Value.slice A' N c').ownBlock = some w.heap.size) → Below base w w' → K (a.put o.dst (.slice A' N c')) w') : o.wp P a w K Q := by
  obtain ⟨A', c', w', hrun, h2, h3, h4⟩ := run_append_row E base o.type v n xs hown x m news hr h1 h63 hbytes hbase
  subst hN
  unfold Oper.wp execOp
  simp only [ho, resolve, invoke, builtin, Sem.run_bind, Sem.run_pure, Result.andThen_ok, List.map_toArray, List.map_cons, List.map_nil, hs, hx, hrun]
  exact h A' c' w' h2 h3 h4 (below_of_grown hown h3 hbase)

/-- At the list of a plain region's operations. -/
theorem wpList_append_row {ops : Array Oper} {rest : List Oper} {o : Oper} {a : Act} {Q : Exit → Act → World → Prop} (hgd : o.guard = none) (s y : Operand)
    (ho : o.op = .call { callee := .builtin .append, args := #[s, y], argTypes := #[t, t] }) (E : IsElem P t e size bytes i z)
    (base : Nat) (v : Value) (n : Nat) (xs : List Value) (hs : a.eval s = v) (hown : w.ownsRow base e size v n xs) (x : Value) (m : Nat) (news : List Value) (hx : a.eval y = x)
    (hr : Row w size x m news) (h1 : ∀ u ∈ news, u.oneCell' = true) (h63 : n + m ≤ maxLen) (hbytes : (n + m) * bytes ≤ 140737488355328) (hbase : base ≤ w.heap.size)
    (N : Nat) (hN : n + m = N)
    (h : ∀ A' c' w', w'.ownsRow base e size (.slice A' N c') N (xs ++ news) → w.grownBy w' v.ownBlock → ((Value.slice A' N c').ownBlock = v.ownBlock ∨ (Value.slice A' N c').ownBlock = some w.heap.size) → Below base w w' → wpList P ops Q rest (a.put o.dst (.slice A' N c')) w') : wpList P ops Q (o :: rest) a w :=
  wpList_plain hgd fun _ hK => wp_append_row s y ho E base v n xs hs hown x m news hx hr h1 h63 hbytes hbase N hN fun A' c' w' h2 h3 h4 h5 => hK _ _ (h A' c' w' h2 h3 h4 h5)

/-- At a step of a region that draws its order. -/
theorem step_append_row {ops : Array Oper} {o : Oper} {a : Act} {K : Act → World → Prop} {Q : Exit → Act → World → Prop} {C : Prop} (hgd : o.guard = none) (s y : Operand)
    (ho : o.op = .call { callee := .builtin .append, args := #[s, y], argTypes := #[t, t] }) (E : IsElem P t e size bytes i z)
    (base : Nat) (v : Value) (n : Nat) (xs : List Value) (hs : a.eval s = v) (hown : w.ownsRow base e size v n xs) (x : Value) (m : Nat) (news : List Value) (hx : a.eval y = x)
    (hr : Row w size x m news) (h1 : ∀ u ∈ news, u.oneCell' = true) (h63 : n + m ≤ maxLen) (hbytes : (n + m) * bytes ≤ 140737488355328) (hbase : base ≤ w.heap.size)
    (N : Nat) (hN : n + m = N)
    (h : ∀ A' c' w', w'.ownsRow base e size (.slice A' N c') N (xs ++ news) → w.grownBy w' v.ownBlock → ((Value.slice A' N c').ownBlock = v.ownBlock ∨ (Value.slice A' N c').ownBlock = some w.heap.size) → Below base w w' → K (a.put o.dst (.slice A' N c')) w') :
    if Region.wanted o (yielded ops a.tmps) = true then Oper.wp P o a w K Q else C := by
  rw [if_pos (by simp [Region.wanted, hgd])]
  exact wp_append_row s y ho E base v n xs hs hown x m news hx hr h1 h63 hbytes hbase N hN h
end

/-- One element in a block of its own, as it is laid ahead of an append. -/
theorem Row.one (w : World) (x : Value) (t : TypeId) : Row (w.alloc (.cells #[x] t)) 1 (.slice (some ⟨w.heap.size, 0, none⟩) 1 1) 1 [x] :=
  ⟨rfl, _, 1, rfl, Nat.le_refl _, by decide, fun _ => ⟨w.heap.size, 0, rfl, by simp, fun j u hj => by
    match j, hj with
    | 0, hj =>
      simp at hj
      subst hj
      simp⟩⟩
theorem U32s.one (w : World) (n : Nat) (t : TypeId) (h : n < 4294967296) : U32s (w.alloc (.cells #[.int .u32 n] t)) (.slice (some ⟨w.heap.size, 0, none⟩) 1 1) [n] := ⟨Row.one w _ t, by simpa using h⟩
theorem ones_u32 (l : List Nat) : ∀ u ∈ l.map (fun n : Nat => Value.int .u32 n), u.oneCell' = true := fun u hu => by
  obtain ⟨n, _, rfl⟩ := List.mem_map.1 hu
  rfl

theorem one_u32 (x : Int) : ∀ u ∈ [Value.int .u32 x], u.oneCell' = true := fun u hu => by
  obtain rfl := List.mem_singleton.1 hu
  rfl
theorem heap_dr (w : World) : w.drew.heap = w.heap := rfl
theorem heap_al (w : World) (o : Obj) : (w.alloc o).heap = w.heap.push o := rfl
theorem own_blk {W : World} {base B : Nat} {t : TypeId} (hB : base ≤ B) (h : W.heap[B]? = some (.cells #[] t (0, 0))) : W.ownsRow base t 1 (.slice (some ⟨B, 0, none⟩) 0 0) 0 [] :=
  ⟨rfl, .inr ⟨B, 0, #[], rfl, hB, h, Nat.le_refl _, Nat.zero_le _, rfl, rfl⟩⟩
theorem one_blk {W : World} {B : Nat} {t : TypeId} {x : Value} (h : W.heap[B]? = some (.cells #[x] t (0, 0))) : Row W 1 (.slice (some ⟨B, 0, none⟩) 1 1) 1 [x] :=
  Row.of_own (base := 0) (e := t) ⟨rfl, .inr ⟨B, 1, #[x], rfl, Nat.zero_le _, h, Nat.le_refl _, by decide, rfl, rfl⟩⟩

theorem own_base {w : World} {base base' : Nat} {e : TypeId} {size : Nat} {v : Value} {n : Nat} {xs : List Value} (h : w.ownsRow base' e size v n xs) (hb : base ≤ base') : w.ownsRow base e size v n xs := by
  obtain ⟨h1, h2⟩ := h
  refine ⟨h1, ?_⟩
  rcases h2 with h2 | ⟨g, cap, cur, hv, hg, r⟩
  · exact .inl h2
  · exact .inr ⟨g, cap, cur, hv, Nat.le_trans hb hg, r⟩

theorem own_keep {w w' : World} {base : Nat} {e : TypeId} {size : Nat} {v : Value} {n : Nat} {xs : List Value} (h : w.ownsRow base e size v n xs) (hb : Below w.heap.size w w') : w'.ownsRow base e size v n xs := by
  obtain ⟨h1, h2⟩ := h
  refine ⟨h1, ?_⟩
  rcases h2 with h2 | ⟨g, cap, cur, hv, hg, hh, r⟩
  · exact .inl h2
  · refine .inr ⟨g, cap, cur, hv, hg, ?_, r⟩
    rw [hb.block g ?_]
    · exact hh
    · rcases Nat.lt_or_ge g w.heap.size with h | h
      · exact h
      · rw [Array.getElem?_eq_none h] at hh; cases hh
/-- WHAT A CALL GIVES: numbers in memory of its own (behind a name, so that no walk lays it open). -/
def Gives32 (t : TypeId) (l : List Nat) (w : World) (e : Ending) (w' : World) : Prop :=
  ∃ v, e = .returned v ∧ w'.ownsRow w.heap.size t 1 v l.length (l.map fun n : Nat => Value.int .u32 n) ∧ Below w.heap.size w w'
/-- .. numbers that can be read, wherever they lie. -/
def Tells32 (l : List Nat) (w : World) (e : Ending) (w' : World) : Prop := ∃ v, e = .returned v ∧ U32s w' v l ∧ Below w.heap.size w w'
/-- .. one value. -/
def Tells (v : Value) (w : World) (e : Ending) (w' : World) : Prop := e = .returned v ∧ Below w.heap.size w w'
theorem Tells32.of_gives {t : TypeId} {l : List Nat} {w w' : World} {e : Ending} (h : Gives32 t l w e w') (hl : ∀ n ∈ l, n < 4294967296) : Tells32 l w e w' := by
  obtain ⟨v, he, hown, hb⟩ := h
  exact ⟨v, he, U32s.of_own hown hl, hb⟩

theorem ret_bool {a b : Bool} (h : a = b) : Ending.returned (.bool a) = .returned (.bool b) := by rw [h]
theorem Below.tr {w a b : World} (h : Below w.heap.size w a) (k : Below a.heap.size a b) : Below w.heap.size w b := Go.RowKit.Below.trans h (k.mono h.size)
theorem below_drewN (w : World) (n : Nat) : Below w.heap.size w (w.drewN n) := ⟨rfl, rfl, rfl, Nat.le_refl _, fun _ _ => rfl⟩
end Go.Proofs.YtgjdpmpbldofpaaDoor.Mem
