/- Words for memory: bytes in a row, wherever they lie; what they read as as a text; blocks that turn. It speaks of no function of the program. -/
import Derived.Test.YtgjdpmpbldofpaaDoorMem
import Derived.Laws.BytesArg
import Derived.Lib.Strings
import Derived.Lib.SmallJoins
namespace Go.Proofs.YtgjdpmpbldofpaaDoor.Oct
open Go.RowKit Mem

def cells8 (l : List Nat) : List Value := l.map fun n : Nat => Value.int .u8 n
theorem cells8_len (l : List Nat) : (cells8 l).length = l.length := by simp [cells8]
theorem cells8_append (l m : List Nat) : cells8 (l ++ m) = cells8 l ++ cells8 m := by simp [cells8]
theorem cells8_take (l : List Nat) (k : Nat) : (cells8 l).take k = cells8 (l.take k) := by simp [cells8]
theorem cells8_drop (l : List Nat) (k : Nat) : (cells8 l).drop k = cells8 (l.drop k) := by simp [cells8]
theorem ones8 (l : List Nat) : ∀ u ∈ cells8 l, u.oneCell' = true := fun u hu => by
  obtain ⟨n, _, rfl⟩ := List.mem_map.1 hu
  rfl
/-- Small numbers. -/
def Small (l : List Nat) : Prop := ∀ n ∈ l, n < 256
theorem Small.take {l : List Nat} (h : Small l) (k : Nat) : Small (l.take k) := fun n hn => h n (List.mem_of_mem_take hn)
theorem Small.drop {l : List Nat} (h : Small l) (k : Nat) : Small (l.drop k) := fun n hn => h n (List.mem_of_mem_drop hn)
theorem Small.append {l m : List Nat} (h : Small l) (k : Small m) : Small (l ++ m) := fun n hn => (List.mem_append.1 hn).elim (h n) (k n)
theorem small_nil : Small [] := fun n h => by simp at h

/-- A slice of bytes. -/
def U8s (w : World) (v : Value) (l : List Nat) : Prop := Row w 1 v l.length (cells8 l) ∧ Small l
section
variable {w w' : World} {v : Value} {l : List Nat}
theorem U8s.keep (h : U8s w v l) (hb : Below w.heap.size w w') : U8s w' v l := ⟨h.1.keep hb, h.2⟩
theorem U8s.nil (w : World) : U8s w (.slice none 0 0) [] := ⟨Row.nil w 1, small_nil⟩
theorem U8s.of_own {base : Nat} {e : TypeId} (h : w.ownsRow base e 1 v l.length (cells8 l)) (hl : Small l) : U8s w v l := ⟨Row.of_own h, hl⟩
theorem U8s.open_ (h : U8s w v l) : ∃ A c, v = .slice A l.length c ∧ l.length ≤ c ∧ c ≤ 9223372036854775807 ∧ Small l ∧
    ∀ k, k < l.length → ∃ b off x, A = some ⟨b, off, none⟩ ∧ b < w.heap.size ∧ l[k]? = some x ∧ x < 256 ∧ w.cell? ⟨b, off + k, none⟩ = some (.int .u8 x) := by
  obtain ⟨⟨_, A, c, rfl, hn, hc, hr⟩, hl⟩ := h
  refine ⟨A, c, rfl, hn, hc, hl, fun k hk => ?_⟩
  obtain ⟨b, off, hA, hlt, hcell⟩ := hr (by omega)
  refine ⟨b, off, l[k], hA, hlt, List.getElem?_eq_getElem hk, hl _ (List.getElem_mem hk), hcell k _ ?_⟩
  unfold cells8
  rw [List.getElem?_map, List.getElem?_eq_getElem hk]; rfl
theorem U8s.form (h : U8s w v l) : ∃ A c, v = .slice A l.length c ∧ l.length ≤ c ∧ c ≤ 9223372036854775807 := by
  obtain ⟨A, c, h1, h2, h3, _⟩ := h.open_
  exact ⟨A, c, h1, h2, h3⟩
theorem U8s.at_ {A : Option Addr} {n c k : Nat} (h : U8s w (.slice A n c) l) (hk : k < l.length) :
    ∃ b off x, A = some ⟨b, off, none⟩ ∧ b < w.heap.size ∧ l[k]? = some x ∧ x < 256 ∧ w.cell? ⟨b, off + k, none⟩ = some (.int .u8 x) := by
  obtain ⟨A', c', e, _, _, _, hat⟩ := h.open_
  injection e with e1
  subst e1
  exact hat k hk
end
/-- Bytes as a text. -/
def txt (l : List Nat) : ByteArray := ⟨(l.map UInt8.ofNat).toArray⟩
theorem txt_list (l : List Nat) : (txt l).toList = l.map UInt8.ofNat := by rw [Lib.toList_data]; simp [txt]
theorem map_inj : ∀ {l m : List Nat}, Small l → Small m → l.map UInt8.ofNat = m.map UInt8.ofNat → l = m
  | [], [], _, _, _ => rfl
  | [], _ :: _, _, _, h => by simp at h
  | _ :: _, [], _, _, h => by simp at h
  | a :: l, b :: m, hl, hm, h => by
    simp only [List.map_cons, List.cons.injEq] at h
    have h1 := hl a (by simp)
    have h2 := hm b (by simp)
    have h3 : a = b := by
      have := congrArg UInt8.toNat h.1
      simp at this
      omega
    rw [h3, map_inj (fun n hn => hl n (by simp [hn])) (fun n hn => hm n (by simp [hn])) h.2]
theorem txt_eq {l m : List Nat} (hl : Small l) (hm : Small m) : ((txt l).toList == (txt m).toList) = decide (l = m) := by
  rw [txt_list, txt_list]
  by_cases h : l = m
  · simp [h]
  · rw [decide_eq_false h]
    simp only [beq_eq_false_iff_ne, ne_eq]
    exact fun e => h (map_inj hl hm e)
theorem txt_same (l : List Nat) : ((txt l).toList == (txt l).toList) = true := by simp
theorem U8s.text {P : Program} {w : World} {v : Value} {l : List Nat} (h : U8s w v l) (s d e : TypeId) (hs : P.underlying s = some (.slice e)) (he : P.underlying e = some (.int .u8)) (hd : P.underlying d = some .string) :
    (convert s d v).run P w = .ok (.string (txt l)) w := by
  obtain ⟨⟨hlen, A, c, rfl, hn, hc, hr⟩, hl⟩ := h
  have hx : strOfNums (l.map fun n : Nat => (n : Int)) = txt l := by
    simp [strOfNums, txt, Function.comp_def]
  rcases Nat.eq_zero_or_pos l.length with h0 | h0
  · obtain rfl : l = [] := List.eq_nil_of_length_eq_zero h0
    cases A with
    | none => rw [run_convert_bytes_nil w _ _ hs he _ c _ hd]; rfl
    | some ad =>
      rw [run_convert_bytes_string w s d e _ _ c hs he hd, List.length_nil]
      rw [run_bytesToString w ad 0 c [] (run_loadCells_list w ad [] (by simp))]
      rfl
  · obtain ⟨b, off, rfl, hlt, hcell⟩ := hr h0
    rw [run_convert_bytes_arg w _ _ hs he b off l.length c (l.map fun x : Nat => (x : Int)) (by simp) (fun i hi => by
      have := hcell i (.int .u8 (l[i] : Nat)) (by simp [cells8, List.getElem?_eq_getElem hi])
      rw [this]
      simp [List.getD, List.getElem?_eq_getElem hi]) _ hd, hx]

/-- These blocks alone may have turned. -/
structure Only (F : Nat → Prop) (W W' : World) : Prop where
  os : W'.os = W.os
  tape : W'.tape = W.tape
  output : W'.output = W.output
  size : W.heap.size ≤ W'.heap.size
  block : ∀ k, k < W.heap.size → ¬ F k → W'.heap[k]? = W.heap[k]?
theorem Only.below {F : Nat → Prop} {W W' : World} {n : Nat} (h : Only F W W') (hn : ∀ k, F k → n ≤ k) (hs : n ≤ W.heap.size) : Below n W W' :=
  ⟨h.os, h.tape, h.output, h.size, fun k hk => h.block k (by omega) (fun hf => by have := hn k hf; omega)⟩
theorem Only.of {F : Nat → Prop} {W W' : World} (h : Below W.heap.size W W') : Only F W W' := ⟨h.os, h.tape, h.output, h.size, fun k hk _ => h.block k hk⟩
theorem Only.trans {F : Nat → Prop} {a b c : World} (h : Only F a b) (k : Only F b c) : Only F a c :=
  ⟨k.os.trans h.os, k.tape.trans h.tape, k.output.trans h.output, Nat.le_trans h.size k.size, fun j hj hf => (k.block j (Nat.lt_of_lt_of_le hj h.size) hf).trans (h.block j hj hf)⟩
theorem Only.more {F G : Nat → Prop} {a b : World} (h : Only F a b) (hg : ∀ k, F k → G k) : Only G a b :=
  ⟨h.os, h.tape, h.output, h.size, fun j hj hf => h.block j hj (fun k => hf (hg j k))⟩
/-- Where a slice lies: below n, and not in these blocks. -/
def Lies (n : Nat) (F : Nat → Prop) (s : Value) : Prop := ∀ g, s.ownBlock = some g → g < n ∧ ¬ F g
theorem U8s.part {w w' : World} {v : Value} {l : List Nat} (h : U8s w v l) (hv : ∀ g, v.ownBlock = some g → w'.heap[g]? = w.heap[g]?) (hs : w.heap.size ≤ w'.heap.size) : U8s w' v l := by
  obtain ⟨⟨hl, A, c, rfl, hn, hc, hr⟩, hsm⟩ := h
  refine ⟨⟨hl, A, c, rfl, hn, hc, fun h0 => ?_⟩, hsm⟩
  obtain ⟨b, off, hA, hlt, hcell⟩ := hr h0
  refine ⟨b, off, hA, Nat.lt_of_lt_of_le hlt hs, fun i x hx => ?_⟩
  subst hA
  have h1 := hv b rfl
  have h2 := hcell i x hx
  unfold World.cell? at h2 ⊢
  simp only [h1]
  exact h2
theorem Only.refl (F : Nat → Prop) (W : World) : Only F W W := ⟨rfl, rfl, rfl, Nat.le_refl _, fun _ _ _ => rfl⟩
theorem Only.set {F : Nat → Prop} {W W' : World} (h : Only F W W') {b i : Nat} (hb : F b) (u : Value) : Only F W (W'.setCell ⟨b, i, none⟩ u) :=
  ⟨h.os, h.tape, h.output, by simpa [World.setCell] using h.size, fun k hk hf => (Go.RowKit.Below.heap_setCell _ _ _ _ (fun e => hf (by rw [e]; exact hb))).trans (h.block k hk hf)⟩
theorem Only.drew {F : Nat → Prop} {W W' : World} (h : Only F W W') : Only F W W'.drew := ⟨h.os, h.tape, h.output, h.size, h.block⟩
theorem set0 {W : World} {b : Nat} {x y : Value} {t : TypeId} (u : Value) (h : W.heap[b]? = some (.cells #[x, y] t)) : (W.setCell ⟨b, 0, none⟩ u).heap[b]? = some (.cells #[u, y] t) := by
  rw [Go.Joins.block_setCell h]; rfl
theorem set1 {W : World} {b : Nat} {x y : Value} {t : TypeId} (u : Value) (h : W.heap[b]? = some (.cells #[x, y] t)) : (W.setCell ⟨b, 1, none⟩ u).heap[b]? = some (.cells #[x, u] t) := by
  rw [Go.Joins.block_setCell h]; rfl
/-- The first k bytes, with whatever room. -/
theorem U8s.prefix_ {w : World} {l : List Nat} {A : Option Addr} {n c k d : Nat} (h : U8s w (.slice A n c) l) (hk : k ≤ l.length) (hd : k ≤ d) (hm : d ≤ maxLen) : U8s w (.slice A k d) (l.take k) := by
  obtain ⟨⟨hl, A', c', e, hn, hc, hr⟩, hs⟩ := h
  injection e with e1 e2 e3
  subst e1 e3
  have hlen : (l.take k).length = k := by rw [List.length_take]; omega
  refine ⟨⟨by rw [cells8_len, Nat.mul_one], A, d, by rw [hlen], by rw [hlen]; exact hd, hm, fun h0 => ?_⟩, hs.take k⟩
  obtain ⟨b, off, hA, hlt, hcell⟩ := hr (by omega)
  refine ⟨b, off, hA, hlt, fun i x hx => hcell i x ?_⟩
  rw [← cells8_take, List.getElem?_take] at hx
  split at hx
  · exact hx
  · cases hx
theorem U8s.cut {w : World} {l : List Nat} {A : Option Addr} {c k : Nat} (h : U8s w (.slice A l.length c) l) (hk : k ≤ l.length) :
    U8s w (.slice (if c = k then A else A.map (fun x => x.add k)) (l.length - k) (c - k)) (l.drop k) := by
  have h1 := Row.cut1 (k := k) h.1 hk
  rw [cells8_drop] at h1
  exact ⟨by rw [List.length_drop]; exact h1, h.2.drop k⟩
theorem own_at {A : Option Addr} {m d m' d' g : Nat} (h : (Value.slice A m d).ownBlock = some g) : (Value.slice A m' d').ownBlock = some g := by cases A <;> exact h
theorem cut_own {A : Option Addr} {c k m d m' d' g : Nat} (h : (Value.slice (if c = k then A else A.map (fun x => x.add k)) m d).ownBlock = some g) : (Value.slice A m' d').ownBlock = some g := by
  cases A with
  | none => simp [Value.ownBlock] at h
  | some a =>
    split at h
    · exact h
    · simp only [Option.map, Value.ownBlock] at h ⊢
      rw [← h]
      unfold Addr.add
      split <;> rfl
end Go.Proofs.YtgjdpmpbldofpaaDoor.Oct
