/- Runs of prefixes: as mathematics, and as they lie in memory while they are made. -/
import Derived.Test.YtaemhgmekggliaaPkOut
import Derived.Test.YtaemhgmekggliaaNlriSort
namespace Go.Proofs.Ytaemhgmekggliaa.PR
open Go.RowKit Mem Pfx Oct

/-- The runs so far, of what is to be told. -/
def Packed (room : Int) (all : List Pf) (R : List (List Pf)) : Prop :=
  (∀ r ∈ R, r ≠ [] ∧ (sumN r : Int) ≤ room) ∧ ∀ (i : Nat) (r : List Pf) (x : Pf), R[i]? = some r → all[((R.take (i + 1)).flatten).length]? = some x → room < (sumN r + sizeN x : Nat)
theorem packed_nil (room : Int) (all : List Pf) : Packed room all [] := ⟨by simp, fun i r x h => by simp at h⟩
theorem fits_pos {rest : List Pf} {room : Int} {n : Nat} (h : FitsN rest room n) (hne : rest ≠ []) (hs : ∀ p ∈ rest, (sizeN p : Int) ≤ room) : 0 < n := by
  rcases Nat.eq_zero_or_pos n with e | e
  · subst e
    cases rest with
    | nil => exact absurd rfl hne
    | cons a l =>
      have h1 := h.2.2 (by simp)
      have h2 := hs a (by simp)
      simp [sumN] at h1
      omega
  · exact e
theorem packed_next {room : Int} {all rest : List Pf} {R : List (List Pf)} {n : Nat} (h : Packed room all R) (ha : all = R.flatten ++ rest) (hf : FitsN rest room n) (hne : rest ≠ []) (hs : ∀ p ∈ rest, (sizeN p : Int) ≤ room) :
    Packed room all (R ++ [rest.take n]) ∧ all = (R ++ [rest.take n]).flatten ++ rest.drop n := by
  have hp := fits_pos hf hne hs
  have hn := hf.1
  refine ⟨⟨fun r hr => ?_, fun i r x hi hx => ?_⟩, ?_⟩
  · rcases List.mem_append.1 hr with hr | hr
    · exact h.1 r hr
    · simp only [List.mem_singleton] at hr
      subst hr
      refine ⟨fun e => ?_, ?_⟩
      · have := congrArg List.length e
        rw [List.length_take] at this
        simp at this
        rcases this with e1 | e1
        · omega
        · exact hne e1
      · have := hf.2.1 (n - 1) (by omega)
        rwa [show n - 1 + 1 = n by omega] at this
  · by_cases hil : i < R.length
    · rw [List.getElem?_append_left hil] at hi
      rw [List.take_append_of_le_length (by omega)] at hx
      exact h.2 i r x hi hx
    · have hi2 : i = R.length := by
        have := (List.getElem?_eq_some_iff.1 hi).1
        simp at this
        omega
      subst hi2
      rw [List.getElem?_append_right (Nat.le_refl _)] at hi
      simp at hi
      subst hi
      rw [List.take_of_length_le (by simp)] at hx
      rw [ha, List.flatten_append, List.length_append, List.getElem?_append_right (by omega)] at hx
      simp only [List.flatten_cons, List.flatten_nil, List.append_nil, List.length_take] at hx
      rw [show R.flatten.length + min n rest.length - R.flatten.length = n by omega] at hx
      have h1 := hf.2.2 ((List.getElem?_eq_some_iff.1 hx).1)
      rw [sumN_take hx] at h1
      exact h1
  · rw [ha, List.flatten_append]
    simp [List.append_assoc]
theorem Pfxs.part {w w' : World} {v : Value} {l : List Pf} (h : Pfxs w v l) (hv : ∀ g, v.ownBlock = some g → w'.heap[g]? = w.heap[g]?) (hs : w.heap.size ≤ w'.heap.size) : Pfxs w' v l := by
  obtain ⟨⟨hl, A, c, rfl, hn, hc, hr⟩, hsm⟩ := h
  refine ⟨⟨hl, A, c, rfl, hn, hc, fun h0 => ?_⟩, hsm⟩
  obtain ⟨b, off, hA, hlt, hcell⟩ := hr h0
  refine ⟨b, off, hA, Nat.lt_of_lt_of_le hlt hs, fun i x hx => ?_⟩
  subst hA
  have h1 := hv b rfl
  have h2 := hcell i x hx
  unfold World.cell? at h2 ⊢
  simp only [h1]
  exact h2
theorem elemR : ∃ i, IsElem Try.prog 45 22 1 24 i (.slice none 0 0) := IsElem.mk_ Try.underlying45 (by kernel_rfl) rfl (by decide)
/-- What lies apart from the row of runs: v's block is an old one, and not the row's. -/
def Aside (W : World) (vs v : Value) : Prop := ∀ g, v.ownBlock = some g → g < W.heap.size ∧ vs.ownBlock ≠ some g
/-- While Pack makes its runs. -/
structure PkSt (w0 : World) (bx : Nat) (room : Int) (vr : Value) (rest : List Pf) (vs : Value) (m : Nat) (cs : List Value) (R : List (List Pf)) (W : World) : Prop where
  rest : Pfxs W vr rest
  aside : Aside W vs vr
  row : W.ownsRow w0.heap.size 22 1 vs m cs
  low : Below w0.heap.size w0 W
  box : RoomAt bx room W
  boxlt : bx < W.heap.size ∧ vs.ownBlock ≠ some bx
  len : cs.length = R.length
  runs : ∀ (i : Nat) (c : Value) (r : List Pf), cs[i]? = some c → R[i]? = some r → Pfxs W c r ∧ Aside W vs c
section
variable {w0 W W' : World} {bx : Nat} {room : Int} {vr vs v : Value} {rest : List Pf} {m : Nat} {cs : List Value} {R : List (List Pf)}
theorem Aside.size (h : Aside W vs v) (hs : W.heap.size ≤ W'.heap.size) : Aside W' vs v := fun g hg => ⟨Nat.lt_of_lt_of_le (h g hg).1 hs, (h g hg).2⟩
theorem PkSt.below (h : PkSt w0 bx room vr rest vs m cs R W) (hb : Below W.heap.size W W') : PkSt w0 bx room vr rest vs m cs R W' :=
  ⟨h.rest.keep hb, h.aside.size hb.size, own_keep h.row hb, h.low.trans (hb.mono h.low.size), (room_kp (B := W.heap.size) h.boxlt.1).below hb h.box, ⟨Nat.lt_of_lt_of_le h.boxlt.1 hb.size, h.boxlt.2⟩, h.len, fun i c r hc hr => ⟨(h.runs i c r hc hr).1.keep hb, (h.runs i c r hc hr).2.size hb.size⟩⟩
/-- A run more. -/
theorem PkSt.more (h : PkSt w0 bx room vr rest vs m cs R W) {c : Value} {r : List Pf} (hc : Pfxs W c r) (ha : Aside W vs c) {vs' : Value} {n : Nat} (hrow : W'.ownsRow w0.heap.size 22 1 vs' n (cs ++ [c])) (hg : W.grownBy W' vs.ownBlock) (hat : vs'.ownBlock = vs.ownBlock ∨ vs'.ownBlock = some W.heap.size) (hb : Below w0.heap.size W W') :
    PkSt w0 bx room vr rest vs' n (cs ++ [c]) (R ++ [r]) W' := by
  have hk : ∀ v, Aside W vs v → ∀ g, v.ownBlock = some g → W'.heap[g]? = W.heap[g]? := fun v hv g hg2 => hg.block g (hv g hg2).1 (fun e => (hv g hg2).2 e.symm)
  have hA : ∀ v, Aside W vs v → Aside W' vs' v := fun v hv g hg2 => by
    obtain ⟨h1, h2⟩ := hv g hg2
    refine ⟨Nat.lt_of_lt_of_le h1 hg.size, ?_⟩
    rcases hat with e | e
    · rw [e]; exact h2
    · rw [e]; intro e2; injection e2 with e2; omega
  refine ⟨h.rest.part (hk _ h.aside) hg.size, hA _ h.aside, hrow, h.low.trans hb, ?_, ⟨Nat.lt_of_lt_of_le h.boxlt.1 hg.size, ?_⟩, by simp [h.len], fun i c2 r2 hi hr => ?_⟩
  · have h1 := h.box
    have h2 := hg.block bx h.boxlt.1 (fun e => h.boxlt.2 e.symm)
    unfold RoomAt World.cell? at h1 ⊢
    simp only [h2]
    exact h1
  · rcases hat with e | e
    · rw [e]; exact h.boxlt.2
    · rw [e]; intro e2; injection e2 with e2; have := h.boxlt.1; omega
  · by_cases hil : i < cs.length
    · rw [List.getElem?_append_left hil] at hi
      rw [List.getElem?_append_left (by rw [← h.len]; exact hil)] at hr
      obtain ⟨k1, k2⟩ := h.runs i c2 r2 hi hr
      exact ⟨k1.part (hk _ k2) hg.size, hA _ k2⟩
    · have hl := h.len
      have hi2 : i = cs.length := by
        have := (List.getElem?_eq_some_iff.1 hi).1
        simp at this
        omega
      subst hi2
      rw [List.getElem?_append_right (Nat.le_refl _)] at hi
      rw [List.getElem?_append_right (by omega), show cs.length - R.length = 0 by omega] at hr
      simp at hi hr
      subst hi hr
      exact ⟨hc.part (hk _ ha) hg.size, hA _ ha⟩
/-- The rest is another one. -/
theorem PkSt.rest_ (h : PkSt w0 bx room vr rest vs m cs R W) {vr' : Value} {rest' : List Pf} (hr : Pfxs W vr' rest') (ho : ∀ g, vr'.ownBlock = some g → vr.ownBlock = some g) : PkSt w0 bx room vr' rest' vs m cs R W :=
  ⟨hr, fun g hg => h.aside g (ho g hg), h.row, h.low, h.box, h.boxlt, h.len, h.runs⟩
end
/-- What Pack tells: runs, each in memory that can be read. -/
def Runs (W : World) (v : Value) (R : List (List Pf)) : Prop := ∃ cs : List Value, cs.length = R.length ∧ Row W 1 v R.length cs ∧ ∀ (i : Nat) (c : Value) (r : List Pf), cs[i]? = some c → R[i]? = some r → Pfxs W c r
def PackF (room : Int) (all : List Pf) (w : World) (e : Ending) (w' : World) : Prop := ∃ R A c, e = .returned (.slice A R.length c) ∧ Runs w' (.slice A R.length c) R ∧ Packed room all R ∧ R.flatten = all ∧ Below w.heap.size w w'
theorem cut_pfxs {W : World} {b off n c k : Nat} {l : List Pf} (h : Pfxs W (.slice (some ⟨b, off, none⟩) n c) l) (hn : n = l.length) (hk : k ≤ l.length) :
    Pfxs W (.slice (if c = k then some ⟨b, off, none⟩ else some ⟨b, off + k * 2, none⟩) (n - k) (c - k)) (l.drop k) := by
  subst hn
  have h1 := cut2_at h.1 hk
  rw [pcells_drop] at h1
  exact ⟨by rw [List.length_drop]; exact h1, h.2.drop k⟩
end Go.Proofs.Ytaemhgmekggliaa.PR
