/- The program's Sort. -/
import Derived.Test.YtgjdpmpbldofpaaDoorPkSortF
import Derived.Test.YtgjdpmpbldofpaaDoorPkCompact
import Derived.Test.YtgjdpmpbldofpaaDoorPkPredS
namespace Go.Proofs.YtgjdpmpbldofpaaDoor.PR
open Go.RowKit Mem Pfx Oct

theorem bad_is : PRS.PredIs (fun p => !good p) (fun _ => True) := by
  intro p W hok _
  obtain ⟨a, n⟩ := p
  unfold pV
  dsimp only
  have CG := Go.Lib.hid (fun (W : World) => good_any a n hok.1 W)
  have HB := Go.Lib.hid (below_new W (.cells #[.int .u32 (a : Int), .int .i64 n] 24))
  have HE := Go.Lib.hid (show good ⟨a, n⟩ = goodB a n from rfl)
  rw [HE.out]
  generalize goodB a n = r at CG
  clear HE
  go_enter Tryd.func46, Tryd.ntmps46
  go_wp2_with (go_at_call 26; refine (CG.out _).mono ?_; rintro e w1 ⟨rfl, hb1⟩; have B1 := Go.Lib.hid (HB.out.trans (hb1.mono HB.out.size)); clear hb1)
  go_ret
  exact ⟨rfl, B1.out⟩
theorem filter_good (l : List Pf) : l.filter (fun p => !(!good p)) = l.filter (fun p => good p) := by simp
set_option maxHeartbeats 1000000 in
theorem nsort_any (v : Value) (l : List Pf) (w : World) (hv : Pfxs w v l) (hl : l.length ≤ 100000) : Calls Tryd.prog 35 #[v] w (GivesP (sortP l) w) := by
  have CW := Go.Lib.hid (PRS.without_any v l (fun p => !good p) (fun _ => True) w hv hl bad_is (fun _ _ _ h => h) trivial)
  rw [filter_good] at CW
  have HF := Go.Lib.hid (show (l.filter (fun p => good p)).all good = true by simp)
  have HOK := Go.Lib.hid (show Oks (l.filter (fun p => good p)) from fun p hp => hv.2 p ((List.mem_filter.1 hp).1))
  have HLE := Go.Lib.hid (show (l.filter (fun p => good p)).length ≤ 100000 from Nat.le_trans (List.length_filter_le _ _) hl)
  have HSP := Go.Lib.hid (fun L => @dd_sortP l L)
  generalize l.filter (fun p => good p) = F at CW HF HOK HLE HSP
  have CS := Go.Lib.hid (fun (A : Option Addr) (c : Nat) (W : World) (ho : W.ownsRow w.heap.size 24 2 (.slice A F.length c) F.length (pcells F)) (hb : w.heap.size ≤ W.heap.size) => sortfunc_any A c F w.heap.size W ho hb HF.out HOK.out HLE.out)
  have CC := Go.Lib.hid (fun (A : Option Addr) (c : Nat) (L : List Pf) (hl : L.length = F.length) (W : World) (ho : W.ownsRow w.heap.size 24 2 (.slice A F.length c) F.length (pcells L)) (hb : w.heap.size ≤ W.heap.size) => show Calls Tryd.prog 48 #[.slice A F.length c] W (GivesAt w.heap.size (dd L) W) from by
    have h := compact_any A c L w.heap.size W (by rw [hl]; exact ho) hb (by rw [hl]; exact HLE.out)
    rw [hl] at h
    exact h)
  clear hv
  go_enter Tryd.func35, Tryd.ntmps35
  go_wp2_with (first
    | (go_at_call 45; refine CW.out.mono ?_; rintro e w1 ⟨A, c, rfl, ho, hb⟩; have O1 := Go.Lib.hid ho; have B1 := Go.Lib.hid hb; clear ho hb)
    | (go_at_call 47; refine (CS.out _ _ _ O1.out B1.out.size).mono ?_; rintro e w2 ⟨rfl, L, hp, hs, ho, hb⟩; have P2 := Go.Lib.hid hp; have S2 := Go.Lib.hid (HSP.out L hp hs); have O2 := Go.Lib.hid ho; have B2 := Go.Lib.hid (B1.out.trans hb); clear ho hb hp hs)
    | (go_at_call 48; refine (CC.out _ _ L (P2.out.length_eq) _ O2.out B2.out.size).mono ?_; rintro e w3 ⟨A3, c3, rfl, ho, hb⟩; have O3 := Go.Lib.hid ho; have B3 := Go.Lib.hid (B2.out.trans hb); clear ho hb))
  go_ret
  have h := O3.out
  rw [S2.out] at h
  exact ⟨A3, c3, by rw [S2.out]; rfl, h, B3.out⟩
end Go.Proofs.YtgjdpmpbldofpaaDoor.PR
