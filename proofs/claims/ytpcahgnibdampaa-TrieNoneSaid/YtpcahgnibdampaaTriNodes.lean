/- The contract of the trie's Nodes. -/
import Derived.Test.YtpcahgnibdampaaTriList
import Derived.Outline
import Derived.Deep.DeepCutAuto
import Derived.Deep.CutRange
import Derived.Deep.Cut
import Derived.Laws.Tables
import Derived.BigQuiet
import Derived.Deep.RegionHeld3
import Derived.Lib.QuietBelow
namespace Go.Proofs.Ytpcahgnibdampaa.Tri
open Go.RowKit Mem PR Pfx Oct

def sumM (l : List MT) : Nat := (l.map msize).foldr (· + ·) 0
theorem sumM_cons (m : MT) (l : List MT) : sumM (m :: l) = msize m + sumM l := by simp only [sumM, List.map_cons, List.foldr_cons]
/-- What stands while the nodes are counted. -/
structure RN (W0 : World) (base bl n0 total : Nat) (l : List MT) (W : World) : Prop where
  box : ∃ n : Nat, n + sumM l = total ∧ W.heap[bl]? = some (.cells #[.int .i64 (n : Int)] 3)
  low : Below base W0 W
  hb : base ≤ bl
  d : bl < n0
  hs : base ≤ W.heap.size
  bs : bl < W.heap.size
  all : ∀ m ∈ l, Mt W0 m ∧ WF (tr m)
theorem rn_walks {W0 : World} {base bl n0 total : Nat} : Walks n0 (RN W0 base bl n0 total) where
  keep := fun h k => by
    obtain ⟨n, h1, h2⟩ := h.box
    exact { h with box := ⟨n, h1, (k.block _ h.bs).trans h2⟩, low := h.low.trans (k.mono h.hs), hs := Nat.le_trans h.hs k.size, bs := Nat.lt_of_lt_of_le h.bs k.size }
  set := fun {l W i v} h => by
    obtain ⟨n, h1, h2⟩ := h.box
    exact { h with box := ⟨n, h1, (set_ne (Nat.ne_of_lt h.d)).trans h2⟩, low := h.low.setCell (show base ≤ n0 by have := h.hb; have := h.d; omega) v, hs := by simpa [World.setCell] using h.hs, bs := by simpa [World.setCell] using h.bs }
  nil := fun h => by
    obtain ⟨n, h1, h2⟩ := h.box
    exact { h with box := ⟨n, (by rw [sumM_cons] at h1; simp only [msize] at h1; omega), h2⟩, all := fun m hm => h.all m (List.mem_cons_of_mem _ hm) }
  nil2 := fun h => by
    obtain ⟨n, h1, h2⟩ := h.box
    exact { h with box := ⟨n, (by rw [sumM_cons, sumM_cons] at h1; rw [sumM_cons]; simp only [msize] at h1 ⊢; omega), h2⟩, all := fun m hm => (List.mem_cons.1 hm).elim (fun e => e ▸ h.all _ List.mem_cons_self) (fun hm => h.all m (List.mem_cons_of_mem _ (List.mem_cons_of_mem _ hm))) }
  nd := fun h => wf_nd (h.all _ List.mem_cons_self).2
theorem rn_visits {W0 : World} {base bl n0 total : Nat} (h0 : W0.heap.size = base) (ht : total ≤ 100000) : VisitsE 42 #[.pointer (some ⟨bl, 0, none⟩)] n0 (RN W0 base bl n0 total) := by
  intro b q x h c s t l W hn hr
  obtain ⟨n, h1, h2⟩ := hr.box
  obtain ⟨m1, m2⟩ := hr.all _ List.mem_cons_self
  have hl := m1.1.low
  rw [h0] at hl
  rw [sumM_cons] at h1
  refine (nodes1_any h2 (by omega) (by omega)).mono ?_
  rintro e W' ⟨rfl, rfl⟩
  have hbl := hr.hb
  have hd := hr.d
  refine ⟨rfl, (by simp [World.setCell]), set_ne (by omega), (set_ne (by omega)).trans ((hr.low.block b hl).trans m1.1), ?_⟩
  refine { hr with box := ⟨n + 1, ?_, ?_⟩, low := hr.low.setCell hbl _, hs := by simpa [World.setCell] using hr.hs, bs := by simpa [World.setCell] using hr.bs, all := ?_ }
  · rw [sumM_cons, sumM_cons, ← h1]; simp only [msize]; omega
  · exact heap_set (i := 0) (.int .i64 ((n : Int) + 1)) h2
  · intro m hm
    rcases List.mem_cons.1 hm with rfl | hm
    · exact ⟨m1.2.1, m2.2.2.2.2.1⟩
    · rcases List.mem_cons.1 hm with rfl | hm
      · exact ⟨m1.2.2, m2.2.2.2.2.2⟩
      · exact hr.all m (List.mem_cons_of_mem _ hm)
set_option maxRecDepth 100000 in
set_option maxHeartbeats 4000000 in
theorem nodes_m {W : World} {tv : Value} {m : MT} (hT : Topped W tv m) (hw : WF (tr m)) (hl : msize m ≤ 100000) :
    Calls Try.prog 23 #[tv] W (Tells (.int .i64 (msize m)) W) := by
  obtain ⟨W1, hW1⟩ : ∃ W1, W.alloc (.cells #[.int .i64 0] 3) = W1 := ⟨_, rfl⟩
  have s1 : W1.heap.size = W.heap.size + 1 := by rw [← hW1]; simp
  have b1 : Below W.heap.size W W1 := by rw [← hW1]; exact below_new _ _
  have g1 : W1.heap[W.heap.size]? = some (.cells #[.int .i64 0] 3) := by rw [← hW1]; exact heap_alloc_new _ _
  have HB := Go.Lib.hid b1
  have CT := Go.Lib.hid (hT.top W1 b1)
  have CO := Go.Lib.hid (fun (W' : World) (h : Below W1.heap.size W1 W') => each_any 42 #[.pointer (some ⟨W.heap.size, 0, none⟩)] enters_nodes (RN W W.heap.size W.heap.size W'.heap.size (msize m)) m W' rn_walks
    ⟨⟨0, (by simp [sumM]), (h.block _ (by omega)).trans g1⟩, Pfx.Below.tr b1 h, Nat.le_refl _, by have := h.size; omega, by have := h.size; omega, by have := h.size; omega, fun m' hm => by rw [List.mem_singleton.1 hm]; exact ⟨hT.mt, hw⟩⟩ (len_of hw) (rn_visits rfl hl))
  have HW1 := Go.Lib.hid hW1
  clear hT hw hl g1 b1 hW1
  go_enter Try.func23, Try.ntmps23
  go_upto_region 2 with fail
  rw [HW1.out]
  go_wp2_with (first
    | (go_at_call 31; refine CT.out.mono ?_; rintro e w5 ⟨rfl, hb5⟩; have B2 := Go.Lib.hid hb5; clear hb5)
    | (go_at_call 36; refine (CO.out _ B2.out).mono ?_; rintro e w4 ⟨rfl, hr4⟩; obtain ⟨n4, hn4, hg4⟩ := hr4.box; have L4 := Go.Lib.hid hr4.low; have e4 : n4 = msize m := (by simpa [sumM] using hn4); subst e4; have l0 : w4.cell? ⟨W.heap.size, 0, none⟩ = some (.int .i64 (msize m)) := cell_at hg4 rfl; clear hr4 hn4 hg4))
  go_ret
  exact ⟨rfl, L4.out⟩
end Go.Proofs.Ytpcahgnibdampaa.Tri
