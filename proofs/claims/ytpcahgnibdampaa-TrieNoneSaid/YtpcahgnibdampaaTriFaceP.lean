/- The program's tree, as the laws ask for it; and calls with no tree. -/
import Derived.Test.YtpcahgnibdampaaTriCutP
import Derived.Test.YtpcahgnibdampaaTriSound
import Derived.Test.YtpcahgnibdampaaTriNodes
import Derived.Test.YtpcahgnibdampaaTriLongP
import Derived.Test.YtpcahgnibdampaaTrieNoneWalk
import Derived.Test.YtpcahgnibdampaaTriLives
import Derived.Outline
import Derived.Deep.DeepCutAuto
import Derived.Deep.CutRange
import Derived.Deep.Cut
import Derived.Laws.Tables
import Derived.BigQuiet
import Derived.Deep.RegionHeld3
import Derived.Lib.QuietBelow
namespace Go.Proofs.Ytpcahgnibdampaa.Tri
open Go.RowKit Mem PR Pfx Oct

theorem each_nil {k : FuncId} (hent : Enters k) (caps : Array Value) (W : World) : Calls Try.prog 36 #[.pointer none, .func (.func k) #[] caps] W (Tells (.tuple #[]) W) := by
  let R : List MT → World → Prop := fun l w => (l = [.nil] ∨ l = []) ∧ Below W.heap.size W w
  have HR : Walks W.heap.size R := {
    keep := fun {l w w'} h hb => ⟨h.1, h.2.trans (hb.mono h.2.size)⟩
    set := fun {l w i v} h => ⟨h.1, h.2.setCell (Nat.le_refl _) v⟩
    nil := fun {l w} h => by
      obtain ⟨h1, h2⟩ := h
      rcases h1 with h1 | h1
      · injection h1 with _ h1; exact ⟨.inr h1, h2⟩
      · cases h1
    nil2 := fun {m l w} h => by
      rcases h.1 with h1 | h1
      · injection h1 with _ h1; cases h1
      · cases h1
    nd := fun {b q x h c s t l w} hr => by
      rcases hr.1 with h1 | h1
      · injection h1 with h1; cases h1
      · cases h1 }
  have HV : VisitsE k caps W.heap.size R := fun b q x h c s t l w _ hr => by
    rcases hr.1 with h1 | h1
    · injection h1 with h1; cases h1
    · cases h1
  exact (each_any k caps hent R .nil W HR ⟨.inl rfl, Below.refl _ _⟩ trivial HV).mono (by rintro e w ⟨rfl, h⟩; exact ⟨rfl, h.2⟩)
set_option maxRecDepth 100000 in
set_option maxHeartbeats 4000000 in
theorem all_nil (W : World) : Calls Try.prog 20 #[.pointer none] W (GivesP [] W) := by
  obtain ⟨i0, E0⟩ := elemP
  have CL := Go.Lib.hid (len_m (Topped.none W))
  rw [show cntV .nil = 0 from rfl] at CL
  obtain ⟨Q, hQ⟩ : ∃ Q, madeCells (Value.agg #[.int .u32 0, .int .i64 0]).cells (0 * i0.size) = Q := ⟨_, rfl⟩
  have hmk : ∀ Wx : World, (Instr.makeSlice 41 (.int .i64 0) (.int .i64 0)).run Try.prog Wx = .ok (.slice (some ⟨Wx.heap.size, 0, none⟩) 0 0) (Wx.alloc (.cells Q 25)) := fun Wx => by
    have h := run_make (P := Try.prog) Wx _ _ i0 _ E0.ht E0.hi E0.hz .i64 .i64 0 0 (Int.le_refl _) (Int.le_refl _) (by rw [E0.hby]; omega) (by omega)
    simp only [Int.toNat_zero] at h
    rw [hQ] at h
    exact h
  have HOW := Go.Lib.hid (fun (Wx : World) (base : Nat) (h : base ≤ Wx.heap.size) => (by
    have h2 := World.ownsRow_made (base := base) (size := 2) (e := 25) Wx Q 0 h (by unfold maxLen; omega) (by rw [← hQ, E0.hsize]; exact size_madeCells _ _)
    exact h2 : (Wx.alloc (.cells Q 25)).ownsRow base 25 2 (.slice (some ⟨Wx.heap.size, 0, none⟩) 0 0) 0 []))
  have CE := Go.Lib.hid (fun (w : World) (x : Nat) => each_nil enters_all #[.pointer (some ⟨x, 0, none⟩)] w)
  have CT := Go.Lib.hid (fun (w : World) => top_nil w)
  clear hQ E0
  go_enter Try.func20, Try.ntmps20
  go_upto_region 2 with (go_at_call 19; refine CL.out.mono ?_; rintro e w1 ⟨rfl, hb1⟩; have B1 := Go.Lib.hid hb1; clear hb1)
  obtain ⟨W2, hW2⟩ : ∃ W2, W2 = w1.alloc (.cells Q 25) := ⟨_, rfl⟩
  obtain ⟨W3, hW3⟩ : ∃ W3, W3 = W2.alloc (.cells #[.slice (some ⟨w1.heap.size, 0, none⟩) 0 0] 41) := ⟨_, rfl⟩
  have s2 : W2.heap.size = w1.heap.size + 1 := by rw [hW2]; simp
  have s3 : W3.heap.size = w1.heap.size + 2 := by rw [hW3]; simp [s2]
  have b2 : Below w1.heap.size w1 W2 := by rw [hW2]; exact below_new _ _
  have b3 : Below W2.heap.size W2 W3 := by rw [hW3]; exact below_new _ _
  have ho : W2.ownsRow W.heap.size 25 2 (.slice (some ⟨w1.heap.size, 0, none⟩) 0 0) 0 [] := by rw [hW2]; exact HOW.out w1 _ B1.out.size
  have g1 : W3.heap[w1.heap.size + 1]? = some (.cells #[.slice (some ⟨w1.heap.size, 0, none⟩) 0 0] 41) := by rw [hW3, ← s2]; exact heap_alloc_new _ _
  have HL3 := Go.Lib.hid (Pfx.Below.tr B1.out (Pfx.Below.tr b2 b3))
  have HO3 := Go.Lib.hid (own_keep ho b3)
  have HG1 := Go.Lib.hid g1
  have HS3 := Go.Lib.hid s3
  have e3 : (w1.alloc (.cells Q 25)).alloc (.cells #[.slice (some ⟨w1.heap.size, 0, none⟩) 0 0] 41) = W3 := by rw [hW3, hW2]
  clear hW2 hW3 b2 b3 ho g1 s2 s3 hmk
  generalize hx : w1.heap.size = x1 at *
  clear hx
  rw [e3]
  clear e3
  go_wp2_with (first
    | (go_at_call 31; refine (CT.out _).mono ?_; rintro e w5 ⟨rfl, hb5⟩; have B2 := Go.Lib.hid hb5; clear hb5)
    | (go_at_call 36; refine (CE.out _ _).mono ?_; rintro e w4 ⟨rfl, hb4⟩; have B4 := Go.Lib.hid (Pfx.Below.tr B2.out hb4); have l0 : w4.cell? ⟨x1 + 1, 0, none⟩ = some (.slice (some ⟨x1, 0, none⟩) 0 0) := cell_at ((B4.out.block _ (by have h5 := HS3.out; omega)).trans HG1.out) rfl; clear hb4))
  go_ret
  exact ⟨_, _, rfl, own_keep HO3.out B4.out, Pfx.Below.tr HL3.out B4.out⟩
set_option maxRecDepth 100000 in
set_option maxHeartbeats 4000000 in
theorem put_nil (p : Pf) (x : Int) (W : World) : Calls Try.prog 24 #[.pointer none, pV p, .int .i64 x] W (Tells (.tuple #[.int .i64 0, .bool false]) W) := by
  have HB := Go.Lib.hid (below_new W (.cells #[.int .u32 (p.a : Int), .int .i64 p.n] 25))
  unfold pV
  go_enter Try.func24, Try.ntmps24
  go_wp2
  go_ret2
  exact ⟨rfl, HB.out⟩
set_option maxRecDepth 100000 in
set_option maxHeartbeats 4000000 in
theorem cut_nil (p : Pf) (W : World) (hp : p.ok) : Calls Try.prog 25 #[.pointer none, pV p] W (Tells (.tuple #[.int .i64 0, .bool false]) W) := by
  have HB := Go.Lib.hid (below_new W (.cells #[.int .u32 (p.a : Int), .int .i64 p.n] 25))
  obtain ⟨c0, c1⟩ := cells_two W (.int .u32 (p.a : Int)) (.int .i64 p.n) 25
  have CG := Go.Lib.hid (fun (w : World) => get_m p hp (Topped.none w) (m := .nil) trivial)
  rw [show subM .nil p = .nil from rfl, show told p .nil = none from rfl] at CG
  unfold pV at *
  go_enter Try.func25, Try.ntmps25
  go_wp2_with (go_at_call 11; refine (CG.out _).mono ?_; rintro e w1 ⟨rfl, hb1⟩; have B1 := Go.Lib.hid (Pfx.Below.tr HB.out hb1); clear hb1)
  go_ret2
  exact ⟨rfl, B1.out⟩
theorem check_nil (W : World) : Calls Try.prog 22 #[.pointer none] W (Tells (.bool false) W) := by
  go_enter Try.func22, Try.ntmps22
  go_wp2
  go_ret
  exact ⟨rfl, Below.refl _ _⟩
theorem faceN : FaceN where
  put := fun p x W _ => put_nil p x W
  get := fun p W hp => get_m p hp (Topped.none W) (m := .nil) trivial
  cut := fun p W hp => cut_nil p W hp
  long := fun a W ha => long_m a ha (Topped.none W) (m := .nil) trivial
  above := fun p W hp => above_m p hp (Topped.none W) (m := .nil) trivial (Nat.zero_le _)
  below := fun p W hp => below_m p hp (Topped.none W) (m := .nil) trivial (Nat.zero_le _)
  all := all_nil
  len := fun W => len_m (Topped.none W)
  count := fun p W hp => count_m p hp (Topped.none W) (m := .nil) trivial
  nodes := fun W => nodes_m (Topped.none W) (m := .nil) trivial (Nat.zero_le _)
  check := check_nil
theorem turn_of {W : World} {base tb : Nat} {m : MT} {F : Nat → Prop} {l2 : List Ent} {p : Pf} {T2 : Tr} (hF : ∀ k, F k ↔ Blks tb m k) (hbase : ∀ k, F k → base ≤ k) (hb : base ≤ W.heap.size) (hw : WF T2) (he : ents T2 = l2) {e : Ending} {W' : World} (h : PutN W tb m T2 (getE (ents (tr m)) p) e W') : TurnF TT base (.pointer (some ⟨tb, 0, none⟩)) (ents (tr m)) l2 p F W e W' := by
  obtain ⟨m2, rfl, h1, h2, h3, h4, h5⟩ := h
  refine ⟨T2, Blks tb m2, rfl, ⟨tb, m2, rfl, h1, h2, hw, h3, fun k => Iff.rfl, fun k hk => (h5 k hk).elim (fun h6 => hbase k ((hF k).2 h6)) (fun h6 => Nat.le_trans hb h6)⟩, he, h4.more (fun k hk => (hF k).2 hk), fun k hk => (h5 k hk).imp_left (fun h6 => (hF k).2 h6)⟩
theorem faceT : FaceT TT where
  keep := by
    rintro W W' base v t F ⟨tb, m, h1, h2, h3, h4, h5, h6, h7⟩ hk hs
    exact ⟨tb, m, h1, h2.keep (fun k hb => hk k ((h6 k).2 hb)), h3, h4, h5, h6, h7⟩
  low := by
    rintro W base v t F ⟨tb, m, h1, h2, h3, h4, h5, h6, h7⟩ k hk
    exact ⟨h7 k hk, h2.low k ((h6 k).1 hk)⟩
  wf := by
    rintro W base v t F ⟨tb, m, h1, h2, h3, h4, h5, h6, h7⟩
    exact h4
  new := new_any
  put := by
    rintro W base v t F p x ⟨tb, m, rfl, h2, rfl, h4, h5, h6, h7⟩ hp hx hb hl
    cases hg : goodP p with
    | true =>
      rw [if_pos rfl]
      exact (put_good p x hp h2 h4 h5 hl hg).mono (fun e W' h => turn_of h6 h7 hb (put_wf (tr m) p x h4 ⟨hg, hp.1⟩).1 (ents_put (tr m) p x h4 ⟨hg, hp.1⟩) h)
    | false =>
      rw [if_neg (by decide)]
      exact (put_bad p x hp h2 h4 h5 hg).mono (fun e W' h => turn_of h6 h7 hb h4 rfl h)
  cut := by
    rintro W base v t F p ⟨tb, m, rfl, h2, rfl, h4, h5, h6, h7⟩ hp hb hl
    cases hg : getE (ents (tr m)) p with
    | none => exact (cut_none p hp h2 h4 h5 hg).mono (fun e W' h => turn_of h6 h7 hb h4 (hasno_cut hg).symm (by rw [hg]; exact h))
    | some v =>
      have hgp : goodP p = true := by
        cases hgp : goodP p with
        | true => rfl
        | false => rw [get_bad hgp h4] at hg; cases hg
      exact (cut_some p hp h2 h4 h5 hl v hg hgp).mono (fun e W' h => turn_of h6 h7 hb (cut_wf (tr m) p h4).1 (ents_cut (tr m) p h4) (by rw [hg]; exact h))
  get := by
    rintro W base v t F p ⟨tb, m, rfl, h2, rfl, h4, h5, h6, h7⟩ hp
    have h := get_m p hp (Topped.of_tree h2) h4
    rw [told_is m p h4] at h
    exact h
  long := by
    rintro W base v t F a ⟨tb, m, rfl, h2, rfl, h4, h5, h6, h7⟩ ha
    have h := long_m a ha (Topped.of_tree h2) h4
    rw [long_all m a h4] at h
    exact h
  above := by
    rintro W base v t F p ⟨tb, m, rfl, h2, rfl, h4, h5, h6, h7⟩ hp hl
    have h := above_m p hp (Topped.of_tree h2) h4 (by rw [abv_all m p h4]; exact Nat.le_trans above_len hl)
    rw [abv_all m p h4] at h
    exact h
  below := by
    rintro W base v t F p ⟨tb, m, rfl, h2, rfl, h4, h5, h6, h7⟩ hp hl
    have h := below_m p hp (Topped.of_tree h2) h4 (by
      rw [bel_all m p h4]
      unfold belowE
      rw [List.length_map]
      exact Nat.le_trans (List.length_filter_le _ _) hl)
    rw [bel_all m p h4] at h
    exact h
  all := by
    rintro W base v t F ⟨tb, m, rfl, h2, rfl, h4, h5, h6, h7⟩ hl
    have h := all_m h2 h4 h5 (by rw [held_is]; unfold keys; rw [List.length_map]; exact hl)
    rw [held_is] at h
    exact h
  len := by
    rintro W base v t F ⟨tb, m, rfl, h2, rfl, h4, h5, h6, h7⟩ hl
    have h := len_m (Topped.of_tree h2)
    rw [fit_cnt h5] at h
    exact h
  count := by
    rintro W base v t F p ⟨tb, m, rfl, h2, rfl, h4, h5, h6, h7⟩ hp hl
    have h := count_m p hp (Topped.of_tree h2) h4
    rw [count_all m p h4 h5] at h
    exact h
  nodes := by
    rintro W base v t F ⟨tb, m, rfl, h2, rfl, h4, h5, h6, h7⟩ hl
    have hs := size_le (tr m) h4
    have h := nodes_m (Topped.of_tree h2) h4 (by
      rw [msize_tr]
      by_cases e : tr m = .nil
      · rw [e]; exact Nat.zero_le _
      · have := hs.2 e; omega)
    rw [msize_tr] at h
    exact h
  check := by
    rintro W base v t F ⟨tb, m, rfl, h2, rfl, h4, h5, h6, h7⟩ hl
    exact check_m h2 h4 h5 hl
theorem lives_all (W : World) : Calls Try.prog 21 #[] W (Tells (.bool true) W) := lives_of faceT W
end Go.Proofs.Ytpcahgnibdampaa.Tri
