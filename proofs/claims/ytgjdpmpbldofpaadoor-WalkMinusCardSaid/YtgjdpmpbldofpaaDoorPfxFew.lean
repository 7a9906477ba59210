/- The law's Few. -/
import Derived.Test.YtgjdpmpbldofpaaDoorPfxGive
namespace Go.Proofs.YtgjdpmpbldofpaaDoor.PR
open Go.RowKit Go.Sort Mem Pfx

set_option maxHeartbeats 1000000 in
theorem few_any (v : Value) (l : List Pf) (m : Nat) (w : World) (hv : Pfxs w v l) (hm : m ≤ 1000000) : Calls Tryd.prog 5 #[v, .int .i64 m] w (GivesP (l.take m) w) := by
  obtain ⟨i0, E0⟩ := elemP
  obtain ⟨A, c, rfl, hlc, hc⟩ := hv.form
  have h0 : (w.alloc (.cells #[] 24)).ownsRow w.heap.size 24 2 (.slice (some ⟨w.heap.size, 0, none⟩) 0 0) 0 (pcells []) := own_blk2 (Nat.le_refl _) (heap_alloc_new _ _)
  have H0 := Go.Lib.hid h0
  have hb : Below w.heap.size w (w.alloc (.cells #[] 24)) := (Below.refl _ w).alloc (Nat.le_refl _) _
  have HBB := Go.Lib.hid hb
  by_cases hlt : m < l.length
  · have z0 : (0 : Int) ≤ (m : Int) := by omega
    have z1 : (m : Int) < (l.length : Int) := by omega
    have z2 : (m : Int) ≤ (c : Int) := by omega
    have e1 : (l.take m).length = m := by rw [List.length_take]; omega
    have hp := ((hv.keep hb).prefix_ (k := m) (d := c) (by omega) (by omega) (by unfold maxLen; omega)).1
    rw [e1] at hp
    have HP := Go.Lib.hid hp
    have HE := Go.Lib.hid e1
    clear hv h0 hb hp e1
    go_enter Tryd.func5, Tryd.ntmps5
    go_wp2_with (at_builtin; refine wpList_append_row rfl (.tmp 12) (.tmp 13) rfl E0 w.heap.size _ 0 _ rfl H0.out _ m (pcells (l.take m)) rfl HP.out (ones_p _) (by unfold maxLen; omega) (by omega) (by simp) (m) (Nat.zero_add _) ?_; intro A1 c1 w1 hown1 hg1 hat1 hb1; have HO := Go.Lib.hid hown1; have HB1 := Go.Lib.hid hb1; clear hown1 hg1 hat1 hb1)
    go_ret
    refine ⟨_, _, by rw [HE.out]; rfl, by rw [HE.out]; exact HO.out, HBB.out.trans HB1.out⟩
  · have z1 : (l.length : Int) ≤ (m : Int) := by omega
    have HE := Go.Lib.hid (List.take_of_length_le (show l.length ≤ m by omega))
    have HP := Go.Lib.hid (hv.keep hb).1
    clear hv h0 hb
    go_enter Tryd.func5, Tryd.ntmps5
    go_wp2_with (at_builtin; refine wpList_append_row rfl (.tmp 12) (.tmp 13) rfl E0 w.heap.size _ 0 _ rfl H0.out _ l.length (pcells l) rfl HP.out (ones_p _) (by unfold maxLen; omega) (by omega) (by simp) (l.length) (Nat.zero_add _) ?_; intro A1 c1 w1 hown1 hg1 hat1 hb1; have HO := Go.Lib.hid hown1; have HB1 := Go.Lib.hid hb1; clear hown1 hg1 hat1 hb1)
    go_ret
    refine ⟨_, _, by rw [HE.out]; rfl, by rw [HE.out]; exact HO.out, HBB.out.trans HB1.out⟩
end Go.Proofs.YtgjdpmpbldofpaaDoor.PR
