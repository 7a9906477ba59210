/- The program's tree, as the laws ask for it; and calls with no tree. -/
import Derived.Test.YtpcahgnibdampaaP29
import Derived.Test.YtpcahgnibdampaaP23
import Derived.Test.YtpcahgnibdampaaP24
import Derived.Test.YtpcahgnibdampaaP30
import Derived.Test.YtpcahgnibdampaaP11
import Derived.Test.YtpcahgnibdampaaP22
import Derived.Outline
import Derived.Deep.DeepCutAuto
import Derived.Deep.CutRange
import Derived.Deep.Cut
import Derived.Laws.Tables
import Derived.BigQuiet
import Derived.Deep.RegionHeld3
import Derived.Lib.QuietBelow
namespace Go.Proofs.Ytpcahgnibdampaa.Tri
open Go.RowKit Mem PR Pfx Oct
theorem turn_of {W : World} {base tb : Nat} {m : MT} {F : Nat → Prop} {l2 : List Ent} {p : Pf} {T2 : Tr} (hF : ∀ k, F k ↔ Blks tb m k) (hbase : ∀ k, F k → base ≤ k) (hb : base ≤ W.heap.size) (hw : WF T2) (he : ents T2 = l2) {e : Ending} {W' : World} (h : PutN W tb m T2 (getE (ents (tr m)) p) e W') : TurnF TT base (.pointer (some ⟨tb, 0, none⟩)) (ents (tr m)) l2 p F W e W' := by
  obtain ⟨m2, rfl, h1, h2, h3, h4, h5⟩ := h
  refine ⟨T2, Blks tb m2, rfl, ⟨tb, m2, rfl, h1, h2, hw, h3, fun k => Iff.rfl, fun k hk => (h5 k hk).elim (fun h6 => hbase k ((hF k).2 h6)) (fun h6 => Nat.le_trans hb h6)⟩, he, h4.more (fun k hk => (hF k).2 hk), fun k hk => (h5 k hk).imp_left (fun h6 => (hF k).2 h6)⟩
theorem faceT : FaceT TT where
  keep := by
    rintro W W' base v t F ⟨tb, m, h1, h2, h3, h4, h5, h6, h7⟩ hk hs
    exact ⟨tb, m, h1, h2.keep (fun k hb => hk k ((h6 k).2 hb)), h3, h4, h5, h6, h7⟩
  low := by
    rintro W base v t F ⟨tb, m, h1, h2, h3, h4, h5, h6, h7⟩ k hk
    exact ⟨h7 k hk, h2.low k ((h6 k).1 hk)⟩
  wf := by
    rintro W base v t F ⟨tb, m, h1, h2, h3, h4, h5, h6, h7⟩
    exact h4
  new := new_any
  put := by
    rintro W base v t F p x ⟨tb, m, rfl, h2, rfl, h4, h5, h6, h7⟩ hp hx hb hl
    cases hg : goodP p with
    | true =>
      rw [if_pos rfl]
      exact (put_good p x hp h2 h4 h5 hl hg).mono (fun e W' h => turn_of h6 h7 hb (put_wf (tr m) p x h4 ⟨hg, hp.1⟩).1 (ents_put (tr m) p x h4 ⟨hg, hp.1⟩) h)
    | false =>
      rw [if_neg (by decide)]
      exact (put_bad p x hp h2 h4 h5 hg).mono (fun e W' h => turn_of h6 h7 hb h4 rfl h)
  cut := by
    rintro W base v t F p ⟨tb, m, rfl, h2, rfl, h4, h5, h6, h7⟩ hp hb hl
    cases hg : getE (ents (tr m)) p with
    | none => exact (cut_none p hp h2 h4 h5 hg).mono (fun e W' h => turn_of h6 h7 hb h4 (hasno_cut hg).symm (by rw [hg]; exact h))
    | some v =>
      have hgp : goodP p = true := by
        cases hgp : goodP p with
        | true => rfl
        | false => rw [get_bad hgp h4] at hg; cases hg
      exact (cut_some p hp h2 h4 h5 hl v hg hgp).mono (fun e W' h => turn_of h6 h7 hb (cut_wf (tr m) p h4).1 (ents_cut (tr m) p h4) (by rw [hg]; exact h))
  get := by
    rintro W base v t F p ⟨tb, m, rfl, h2, rfl, h4, h5, h6, h7⟩ hp
    have h := get_m p hp (Topped.of_tree h2) h4
    rw [told_is m p h4] at h
    exact h
  long := by
    rintro W base v t F a ⟨tb, m, rfl, h2, rfl, h4, h5, h6, h7⟩ ha
    have h := long_m a ha (Topped.of_tree h2) h4
    rw [long_all m a h4] at h
    exact h
  above := by
    rintro W base v t F p ⟨tb, m, rfl, h2, rfl, h4, h5, h6, h7⟩ hp hl
    have h := above_m p hp (Topped.of_tree h2) h4 (by rw [abv_all m p h4]; exact Nat.le_trans above_len hl)
    rw [abv_all m p h4] at h
    exact h
  below := by
    rintro W base v t F p ⟨tb, m, rfl, h2, rfl, h4, h5, h6, h7⟩ hp hl
    have h := below_m p hp (Topped.of_tree h2) h4 (by
      rw [bel_all m p h4]
      unfold belowE
      rw [List.length_map]
      exact Nat.le_trans (List.length_filter_le _ _) hl)
    rw [bel_all m p h4] at h
    exact h
  all := by
    rintro W base v t F ⟨tb, m, rfl, h2, rfl, h4, h5, h6, h7⟩ hl
    have h := all_m h2 h4 h5 (by rw [held_is]; unfold keys; rw [List.length_map]; exact hl)
    rw [held_is] at h
    exact h
  len := by
    rintro W base v t F ⟨tb, m, rfl, h2, rfl, h4, h5, h6, h7⟩ hl
    have h := len_m (Topped.of_tree h2)
    rw [fit_cnt h5] at h
    exact h
  count := by
    rintro W base v t F p ⟨tb, m, rfl, h2, rfl, h4, h5, h6, h7⟩ hp hl
    have h := count_m p hp (Topped.of_tree h2) h4
    rw [count_all m p h4 h5] at h
    exact h
  nodes := by
    rintro W base v t F ⟨tb, m, rfl, h2, rfl, h4, h5, h6, h7⟩ hl
    have hs := size_le (tr m) h4
    have h := nodes_m (Topped.of_tree h2) h4 (by
      rw [msize_tr]
      by_cases e : tr m = .nil
      · rw [e]; exact Nat.zero_le _
      · have := hs.2 e; omega)
    rw [msize_tr] at h
    exact h
  check := by
    rintro W base v t F ⟨tb, m, rfl, h2, rfl, h4, h5, h6, h7⟩ hl
    exact check_m h2 h4 h5 hl
theorem lives_all (W : World) : Calls Try.prog 21 #[] W (Tells (.bool true) W) := lives_of faceT W
end Go.Proofs.Ytpcahgnibdampaa.Tri
