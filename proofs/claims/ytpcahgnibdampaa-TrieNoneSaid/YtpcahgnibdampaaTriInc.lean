/- Counts along a way: the trie's over, with the functions within Put and Cut. -/
import Derived.Test.YtpcahgnibdampaaTriMP
import Derived.Test.YtpcahgnibdampaaTriVis
import Derived.Outline
import Derived.Deep.DeepCutAuto
import Derived.Deep.CutRange
import Derived.Deep.Cut
import Derived.Laws.Tables
import Derived.BigQuiet
import Derived.Deep.RegionHeld3
import Derived.Lib.QuietBelow
namespace Go.Proofs.Ytpcahgnibdampaa.Tri
open Go.RowKit Mem PR Pfx Oct

theorem plug_ptr : ∀ (fs : List Fr) (a b : MT), ptr a = ptr b → ptr (plug fs a) = ptr (plug fs b)
  | [], _, _, h => h
  | f :: fs, a, b, _ => plug_ptr fs (f.put a) (f.put b) (by rw [f.ptr_put, f.ptr_put])
/-- A node's own cells turn, and nothing else. -/
theorem poke {W W' : World} {tb : Nat} {fs : List Fr} {b : Nat} {q : Pf} {x x2 : Int} {h h2 : Bool} {c c2 : Int} {s t : MT} (hT : TreeM W tb (plug fs (.node b q x h c s t))) (hn : Nd W' b q x2 h2 c2 (ptr s) (ptr t)) (ho : ∀ k, k ≠ b → W'.heap[k]? = W.heap[k]?) : TreeM W' tb (plug fs (.node b q x2 h2 c2 s t)) := by
  obtain ⟨h1, h3, h4⟩ := hT
  have hc := h4 b
  rw [cnt_plug] at hc
  simp only [cnt, if_pos] at hc
  obtain ⟨k1, k2⟩ := (mt_plug fs _ W).1 h3
  have hne : ∀ k, (k = tb ∨ 0 < cntC fs k ∨ 0 < cnt s k ∨ 0 < cnt t k) → k ≠ b := fun k hk e => by
    subst e
    rcases hk with hk | hk
    · rw [if_pos hk.symm] at hc; omega
    · omega
  refine ⟨?_, ?_, fun a => ?_⟩
  · rw [ho tb (hne tb (.inl rfl)), h1]
    rw [plug_ptr fs (.node b q x2 h2 c2 s t) (.node b q x h c s t) rfl]
  · refine (mt_plug fs _ W').2 ⟨?_, hn, k2.2.1.keep (fun k hk => ho k (hne k (.inr (.inr (.inl hk))))), k2.2.2.keep (fun k hk => ho k (hne k (.inr (.inr (.inr hk)))))⟩
    exact MtC.keep (W := W) (v := .pointer (some ⟨b, 0, none⟩)) k1 (fun k hk => ho k (hne k (.inr (.inl hk))))
  · have := h4 a
    rw [cnt_plug] at this ⊢
    simpa only [cnt] using this
/-- All counts are small. -/
def CB : MT → Prop
  | .nil => True
  | .node _ _ _ _ c s t => (-10 ≤ c ∧ c ≤ 2000) ∧ CB s ∧ CB t
theorem cb_plug : ∀ (fs : List Fr) (m : MT), CB (plug fs m) → CB m
  | [], _, h => h
  | f :: fs, m, h => by
    have h2 := cb_plug fs (f.put m) h
    unfold Fr.put at h2
    split at h2
    · exact h2.2.2
    · exact h2.2.1
/-- What stands while counts turn along a way. -/
structure RI (W2 : World) (tb n0 : Nat) (d : Int) (p : Pf) (M : MT) (m : MT) (W : World) : Prop where
  ex : ∃ fs, TreeM W tb (plug fs m) ∧ plug fs (incM d p m) = incM d p M ∧ ∀ a, cnt (plug fs m) a = cnt M a
  wf : WF (tr m)
  cb : CB m
  only : Only (Blks tb M) W2 W
  hs : W2.heap.size ≤ W.heap.size
theorem ri_goes {W2 : World} {tb n0 : Nat} {d : Int} {p : Pf} {M : MT} : Goes (RI W2 tb n0 d p M) where
  keep := fun {m W W'} h hb => by
    obtain ⟨fs, h1, h2, h3⟩ := h.ex
    exact { h with ex := ⟨fs, h1.below hb, h2, h3⟩, only := h.only.trans (Only.of hb), hs := Nat.le_trans h.hs hb.size }
  nd := fun h => by
    obtain ⟨fs, h1, -, -⟩ := h.ex
    exact ⟨((mt_plug fs _ _).1 h1.2.1).2.1, h.wf.1⟩
/-- What is asked of what is called at each node. -/
def Counts (k : FuncId) (d : Int) : Prop := ∀ (b : Nat) (q : Pf) (x : Int) (h : Bool) (c : Int) (k0 k1 : Value) (W : World), Nd W b q x h c k0 k1 → -1000000 < c → c < 1000000 →
  Calls Try.prog k #[.pointer (some ⟨b, 0, none⟩)] W fun e W' => e = .returned (.tuple #[]) ∧ W' = W.setCell ⟨b, 4, none⟩ (.int .i64 (c + d))
theorem ri_visits {k : FuncId} {d : Int} (hk : Counts k d) {W2 : World} {tb n0 : Nat} {p : Pf} {M : MT} (hlow : ∀ a, Blks tb M a → a < W2.heap.size) (hn0 : W2.heap.size ≤ n0) : Visits k #[] p n0 (RI W2 tb n0 d p M) := by
  intro b q x h c s t W hn hr hc
  obtain ⟨fs, h1, h2, h3⟩ := hr.ex
  have hnd : Nd W b q x h c (ptr s) (ptr t) := ((mt_plug fs _ W).1 h1.2.1).2.1
  have hcb := hr.cb.1
  have hbM : Blks tb M b := .inr (by rw [← h3 b, cnt_plug]; simp only [cnt, if_pos]; omega)
  have hbn : b ≠ n0 := fun e => by have := hlow b hbM; omega
  refine (hk b q x h c (ptr s) (ptr t) W hnd (by omega) (by omega)).mono ?_
  rintro e W' ⟨rfl, rfl⟩
  have hnd2 : Nd (W.setCell ⟨b, 4, none⟩ (.int .i64 (c + d))) b q x h (c + d) (ptr s) (ptr t) := heap_set (i := 4) _ hnd
  have hT2 := poke h1 hnd2 (fun k hk => set_ne hk)
  refine ⟨rfl, by simp [World.setCell], set_ne (fun e => hbn e.symm), ⟨x, h, c + d, hnd2⟩, ?_⟩
  have hcn : ∀ a, cnt (plug fs (.node b q x h (c + d) s t)) a = cnt M a := fun a => by
    rw [← h3 a, cnt_plug, cnt_plug]; simp only [cnt]
  have honly : Only (Blks tb M) W2 (W.setCell ⟨b, 4, none⟩ (.int .i64 (c + d))) := hr.only.set hbM _
  have hsz : W2.heap.size ≤ (W.setCell ⟨b, 4, none⟩ (.int .i64 (c + d))).heap.size := by simpa [World.setCell] using hr.hs
  rw [inc_node, if_pos hc] at h2
  unfold kidM
  rcases sd_two q p with h0 | h0
  · rw [if_pos h0] at h2 ⊢
    exact ⟨⟨⟨b, q, x, h, c + d, false, t⟩ :: fs, hT2, h2, hcn⟩, hr.wf.2.2.2.2.1, hr.cb.2.1, honly, hsz⟩
  · rw [if_neg (by rw [h0]; decide)] at h2 ⊢
    exact ⟨⟨⟨b, q, x, h, c + d, true, s⟩ :: fs, hT2, h2, hcn⟩, hr.wf.2.2.2.2.2, hr.cb.2.2, honly, hsz⟩
theorem inc_any {k : FuncId} {d : Int} (hent : Enters k) (hk : Counts k d) (p : Pf) (hp : p.ok) {W : World} {tb : Nat} {M : MT} (hT : TreeM W tb M) (hw : WF (tr M)) (hc : CB M) :
    Calls Try.prog 33 #[ptr M, pV p, .func (.func k) #[] #[]] W fun e W' => e = .returned (.tuple #[]) ∧ TreeM W' tb (incM d p M) ∧ Only (Blks tb M) W W' := by
  refine (over_any k #[] hent p hp (RI W tb W.heap.size d p M) ri_goes M W ⟨⟨[], hT, rfl, fun _ => rfl⟩, hw, hc, Only.refl _ _, Nat.le_refl _⟩ (ri_visits hk hT.low (Nat.le_refl _))).mono ?_
  rintro e W' ⟨rfl, m', hr, he⟩
  obtain ⟨fs, h1, h2, -⟩ := hr.ex
  rw [inc_ends he] at h2
  exact ⟨rfl, h2 ▸ h1, hr.only⟩
theorem counts_put : Counts 45 1 := fun _ _ _ _ _ _ _ _ hn h0 h1 => put1_any hn h0 h1
theorem counts_cut : Counts 46 (-1) := fun _ _ _ _ _ _ _ _ hn h0 h1 => cut1_any hn h0 h1
end Go.Proofs.Ytpcahgnibdampaa.Tri
