/- Two tallies apart, and what Add does to one of them. -/
import Derived.Test.YtifaclbafmpiiaaTalOrderMath
import Derived.Test.YtifaclbafmpiiaaTalMask
import Derived.Deep.RegionHeld3
namespace Go.Proofs.Ytifaclbafmpiiaa.Tal
open Go.RowKit Mem

/-- What New gives, and what Add does, of a tally in blocks of its own. -/
def NewF (T : World → Value → List Cnt → (Nat → Prop) → Prop) (w : World) (e : Ending) (w' : World) : Prop := ∃ v F, e = .returned v ∧ T w' v [] F ∧ (∀ k, F k → w.heap.size ≤ k) ∧ Below w.heap.size w w'
def AddF (T : World → Value → List Cnt → (Nat → Prop) → Prop) (v : Value) (F : Nat → Prop) (l : List Cnt) (w : World) (e : Ending) (w' : World) : Prop := ∃ F', e = .returned (.int .i64 0) ∧ T w' v l F' ∧ Moved F F' w w'
def plusOf (a : Act) : Plus := (a.key, (a.up % 1024).toNat, (a.down % 1024).toNat)
/-- Two tallies, apart. -/
def Pair (T : World → Value → List Cnt → (Nat → Prop) → Prop) (w : World) (t u : Value) (l m : List Cnt) (wr : World) : Prop :=
  ∃ F G, T wr t l F ∧ T wr u m G ∧ (∀ k, F k → ¬ G k) ∧ (∀ k, F k → w.heap.size ≤ k) ∧ (∀ k, G k → w.heap.size ≤ k)

theorem pair_one {T : World → Value → List Cnt → (Nat → Prop) → Prop} (HF : Face T) {w wr W1 : World} {t u : Value} {l' m : List Cnt} {F F' G : Nat → Prop} (hQ : T wr u m G) (hd : ∀ k, F k → ¬ G k) (hF : ∀ k, F k → w.heap.size ≤ k) (hG : ∀ k, G k → w.heap.size ≤ k)
    (hm : Moved F F' wr W1) (hT1 : T W1 t l' F') (hw : w.heap.size ≤ wr.heap.size) : Pair T w t u l' m W1 ∧ Below w.heap.size wr W1 :=
  ⟨⟨F', G, hT1, HF.other hQ hm (fun k hg hf => hd k hf hg), fun k hf hg => (hm.new k hf).elim (fun h => hd k h hg) (fun h => by have := HF.lt hQ hg; omega), fun k hf => (hm.new k hf).elim (hF k) (fun h => by omega), hG⟩, hm.below hF hw⟩
theorem pair_two {T : World → Value → List Cnt → (Nat → Prop) → Prop} (HF : Face T) {w wr W1 : World} {t u : Value} {l m' : List Cnt} {F G G' : Nat → Prop} (hP : T wr t l F) (hd : ∀ k, F k → ¬ G k) (hF : ∀ k, F k → w.heap.size ≤ k) (hG : ∀ k, G k → w.heap.size ≤ k)
    (hm : Moved G G' wr W1) (hT1 : T W1 u m' G') (hw : w.heap.size ≤ wr.heap.size) : Pair T w t u l m' W1 ∧ Below w.heap.size wr W1 :=
  ⟨⟨F, G', HF.other hP hm (fun k hf hg => hd k hf hg), hT1, fun k hf hg => (hm.new k hg).elim (fun h => hd k hf h) (fun h => by have := HF.lt hP hf; omega), hF, fun k hg => (hm.new k hg).elim (hG k) (fun h => by omega)⟩, hm.below hG hw⟩
theorem Pair.below {T : World → Value → List Cnt → (Nat → Prop) → Prop} (HF : Face T) {w wr W1 : World} {t u : Value} {l m : List Cnt} (h : Pair T w t u l m wr) (hb : Below wr.heap.size wr W1) : Pair T w t u l m W1 :=
  let ⟨F, G, h1, h2, h3, h4, h5⟩ := h
  ⟨F, G, HF.below h1 hb, HF.below h2 hb, h3, h4, h5⟩
/-- What Add does to one of two. -/
theorem pair_call1 {T : World → Value → List Cnt → (Nat → Prop) → Prop} (HF : Face T) {w wr : World} {t u : Value} {l m l' : List Cnt} {f : FuncId} {args : Array Value} (h : Pair T w t u l m wr) (hw : w.heap.size ≤ wr.heap.size)
    (C : ∀ F, T wr t l F → Calls Try.prog f args wr (AddF T t F l' wr)) : Calls Try.prog f args wr fun e w' => e = .returned (.int .i64 0) ∧ Pair T w t u l' m w' ∧ Below w.heap.size wr w' := by
  obtain ⟨F, G, h1, h2, h3, h4, h5⟩ := h
  exact (C F h1).mono fun e w' ⟨F', he, hT, hm⟩ => ⟨he, pair_one HF h2 h3 h4 h5 hm hT hw⟩
theorem pair_call2 {T : World → Value → List Cnt → (Nat → Prop) → Prop} (HF : Face T) {w wr : World} {t u : Value} {l m m' : List Cnt} {f : FuncId} {args : Array Value} (h : Pair T w t u l m wr) (hw : w.heap.size ≤ wr.heap.size)
    (C : ∀ G, T wr u m G → Calls Try.prog f args wr (AddF T u G m' wr)) : Calls Try.prog f args wr fun e w' => e = .returned (.int .i64 0) ∧ Pair T w t u l m' w' ∧ Below w.heap.size wr w' := by
  obtain ⟨F, G, h1, h2, h3, h4, h5⟩ := h
  exact (C G h2).mono fun e w' ⟨G', he, hT, hm⟩ => ⟨he, pair_two HF h1 h3 h4 h5 hm hT hw⟩

end Go.Proofs.Ytifaclbafmpiiaa.Tal
