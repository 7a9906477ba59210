/- The merged list of whatever prefixes; how many addresses they have. It speaks of no function of the program. -/
import Derived.Test.YtgjdpmpbldofpaaDoorWlkMany
import Derived.Test.YtgjdpmpbldofpaaDoorWlkTops
namespace Go.Proofs.YtgjdpmpbldofpaaDoor.Wlk
open Mem Pfx PR

theorem hasG_sort {l : List Pf} (h : Oks l) (x : Nat) : has (sortP l) x ↔ hasG l x := by
  obtain ⟨-, s2, -⟩ := sort_is h
  unfold has hasG
  constructor
  · rintro ⟨p, hp, hx⟩
    exact ⟨p, ((s2 p).1 hp).1, ((s2 p).1 hp).2, hx⟩
  · rintro ⟨p, hp, hg, hx⟩
    exact ⟨p, (s2 p).2 ⟨hp, hg⟩, hx⟩
/-- The merged list of whatever prefixes. -/
def mergedL (l : List Pf) : List Pf := mergeL (topsL (sortP l))
theorem merged_is {l : List Pf} (h : Oks l) : Canon (mergedL l) ∧ (∀ x, has (mergedL l) x ↔ hasG l x) ∧ (mergedL l).length ≤ l.length := by
  obtain ⟨s1, s2, s3⟩ := sort_is h
  obtain ⟨t1, t2, t3, t4, t5⟩ := tops_is s1 s3
  obtain ⟨m1, m2, m3⟩ := merge_is t1
  refine ⟨m1, fun x => ?_, ?_⟩
  · unfold mergedL
    rw [m2, t2, hasG_sort h]
  · have := sort_le l
    unfold mergedL
    omega
theorem merged_pfx {l : List Pf} (h : Oks l) : pfxT (ofT l) = mergedL l := by
  obtain ⟨m1, m2, m3⟩ := merged_is h
  obtain ⟨o1, o2, o3⟩ := of_is h
  obtain ⟨p1, p2⟩ := pfxT_is _ o1
  exact canon_ext p1 m1 (fun x => by rw [p2, o2, m2])
theorem hasG_good {l : List Pf} (h : ∀ p ∈ l, G p) (x : Nat) : hasG l x ↔ has l x := by
  unfold has hasG
  constructor
  · rintro ⟨p, hp, -, hx⟩
    exact ⟨p, hp, hx⟩
  · rintro ⟨p, hp, hx⟩
    exact ⟨p, hp, (h p hp).1, hx⟩
theorem merged_self {m : List Pf} (h : Canon m) : mergedL m = m := by
  obtain ⟨m1, m2, m3⟩ := merged_is (oks_G h.good)
  exact canon_ext m1 h (fun x => by rw [m2, hasG_good h.good])
theorem span_of {l : List Pf} (h : Oks l) : spanL (topsL (sortP l)) = sizeT (ofT l) := by
  obtain ⟨s1, s2, s3⟩ := sort_is h
  obtain ⟨t1, t2, t3, t4, t5⟩ := tops_is s1 s3
  obtain ⟨o1, o2, o3⟩ := of_is h
  exact span_size t1 o1 (fun x => by rw [t2, hasG_sort h, o2])
end Go.Proofs.YtgjdpmpbldofpaaDoor.Wlk
