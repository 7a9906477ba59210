/- asn's Set of up to 4999 numbers: over the library's whole sort. asn's Set of some numbers: what it gives lies in memory of its own. -/
import Derived.Test.YtcdbeljmniaofaaGreatDoorSortPdq
import Derived.Test.YtcdbeljmniaofaaGreatDoorSetMake

/- asn's Set of up to 4999 numbers: over the library's whole sort. -/
namespace Go.Proofs.YtcdbeljmniaofaaGreatDoor.Srt
open Go.RowKit Go.Sort Mem Rise

/-- The row sorted: of one order there is one. -/
def srt (d : Array Nat) : Array Nat := Sort.insertionSort ltN d 0 d.size
theorem srt_ordered (d : Array Nat) : Ordered 0 d.size d (srt d) := insertionSort_holds swoN d 0 d.size (Nat.zero_le _) (Nat.le_refl _)
theorem srt_of {d d' : Array Nat} (h : Ordered 0 d.size d d') : d' = srt d := by
  have hanti : ∀ x y, ltN x y = false → ltN y x = false → x = y := fun x y h1 h2 => by
    unfold ltN at h1 h2
    simp only [decide_eq_false_iff_not] at h1 h2
    omega
  have h2 := srt_ordered d
  have e1 := sorted_unique_holds (lt := ltN) swoN hanti d d' h.1 h.2
  have e2 := sorted_unique_holds (lt := ltN) swoN hanti d (srt d) h2.1 h2.2
  exact Array.toList_inj.1 (e1.trans e2.symm)
theorem sorts_all (most : Nat) : Sorts srt most := by
  have h := srt_ordered
  refine ⟨fun d _ => (h d).1.1, fun d _ x => ?_, fun d _ => by rw [(h d).1.1]; exact (h d).2⟩
  have hp := (h d).1.2.2
  have e1 : (srt d).extract 0 d.size = srt d := by
    have := (h d).1.1
    generalize srt d = r at this ⊢
    rw [← this]; simp
  rw [e1] at hp
  have e2 : d.extract 0 d.size = d := by simp
  rw [e2] at hp
  exact hp.mem_iff

/-- What the sort leaves of a row. -/
def Sorted1 (blk : Nat) (D : Array Nat) (w : World) (e : Ending) (w' : World) : Prop := e = .returned (.tuple #[]) ∧ Hid (Left blk 0 D w w')

theorem bitLen_le (x : Nat) : Lib.bitLen x ≤ 64 := by
  have h : ∀ f x, Lib.bitLenAux f x ≤ f := by
    intro f
    induction f with
    | zero => intro x; simp [Lib.bitLenAux]
    | succ f ih =>
      intro x
      unfold Lib.bitLenAux
      split
      · omega
      · have := ih (x / 2); omega
  exact h 64 x

set_option maxHeartbeats 1000000 in
theorem sort_any (blk cap : Nat) (d : Array Nat) (w : World) (hH : Holds encN w blk 0 d) (hblk : blk < w.heap.size) (hsz : d.size < 5000) :
    Calls Tryz.prog 30 #[.slice (some ⟨blk, 0, none⟩) d.size cap] w (Sorted1 blk (srt d) w) := by
  have C0 : ∀ (limit : Nat), limit ≤ 1000 → Calls Tryz.prog 40 #[.slice (some ⟨blk, 0, none⟩) d.size cap, .int .i64 0, .int .i64 d.size, .int .i64 limit] w (Sorted1 blk (srt d) w) := fun limit hl =>
    (pdq_any blk 0 cap d.size hsz (d.size + 1) 0 d.size limit d w (by omega) rfl hH (Nat.zero_le _) (Nat.le_refl _) (.inl rfl) hblk hl).mono fun e w' ⟨he, d', hq, hL⟩ => ⟨he, by rw [← srt_of hq.out]; exact hL⟩
  have C := Go.Lib.hid C0
  have CB := Go.Lib.hid (fun w => Tryz.bits_Len (d.size : Int) w (by omega) (by omega))
  have hB := Go.Lib.hid (bitLen_le (d.size : Int).toNat)
  generalize Lib.bitLen (d.size : Int).toNat = lim at CB hB
  clear hH C0
  go_enter Tryz.func30, Tryz.ntmps30
  go_wp2_with (first | (go_at_call 41; refine (CB.out _).mono ?_; rintro e w1 ⟨rfl, rfl⟩) | (go_at_call 40; refine (C.out lim (by have := hB.out; omega)).mono ?_; rintro e w1 ⟨rfl, h1⟩))
  go_end0
  exact ⟨rfl, h1⟩

theorem set_end2 {w w1 w2 w3 : World} {g cap n3 : Nat} {l : List Nat} {D : Array Nat} (hb1 : RowKit.Below w.heap.size w w1) (hg : l.length ≤ cap ∧ cap ≤ maxLen ∧ g < w1.heap.size ∧ w.heap.size ≤ g ∧ Holds encN w1 g 0 l.toArray)
    (h2 : Left g 0 D w1 w2) (h3 : w3 = putRow encN (Sort.ahead w2 n3) g 0 (Lib.compactUpTo D l.length ++ List.replicate (l.length - (Lib.compactUpTo D l.length).length) 0).toArray)
    (he : Lib.compactUpTo D D.size = setOf l) (hz : D.size = l.length) (hl : ∀ n ∈ l, n < 4294967296) : Tells32 (setOf l) w (.returned (.slice (some ⟨g, 0, none⟩) (Lib.compactUpTo D l.length).length cap)) w3 := by
  obtain ⟨g1, g2, g3, g4, hH⟩ := hg
  rw [hz] at he
  rw [he] at h3 ⊢
  obtain ⟨hH2, hb2⟩ := h2
  have hg2 : g < w2.heap.size := Nat.lt_of_lt_of_le g3 hb2.size
  have hle : (setOf l).length ≤ l.length := Nums.length_setOf l
  have hs : ((setOf l) ++ List.replicate (l.length - (setOf l).length) 0).toArray.size = D.size := by rw [List.size_toArray, List.length_append, List.length_replicate]; omega
  obtain ⟨hR, hb3⟩ := row_putG (os := #[]) (h3.trans (grow_empty _).symm) hH2 hs (m := (setOf l).length) (by rw [hs]; omega) (by omega) g2 hg2
  refine ⟨_, rfl, ⟨?_, fun n hn => hl n ((mem_setOf l n).1 hn)⟩, hb1.trans ((hb2.mono g4).trans (hb3.mono g4))⟩
  have e : ((setOf l) ++ List.replicate (l.length - (setOf l).length) 0).toArray.toList.take (setOf l).length = setOf l := by simp
  rw [e] at hR
  exact hR

set_option maxHeartbeats 2000000 in
theorem set_any (v : Value) (l : List Nat) (w : World) (hv : U32s w v l) (hlen : l.length < 5000) :
    Calls Tryz.prog 20 #[v] w (Tells32 (setOf l) w) := by
  rcases Nat.eq_zero_or_pos l.length with h0 | h0
  · exact set_small v l w hv (by omega)
  · have hl := hv.2
    have C0 := clone_any v l w hv (by omega)
    have hS := sorts_all 5000
    have C1 := Go.Lib.hid (C0.mono fun e w1 h => show (∃ g cap, e = .returned (.slice (some ⟨g, 0, none⟩) l.length cap) ∧ Hid (l.length ≤ cap ∧ cap ≤ maxLen ∧ g < w1.heap.size ∧ w.heap.size ≤ g ∧ Holds encN w1 g 0 l.toArray)) ∧ RowKit.Below w.heap.size w w1 from by
      obtain ⟨v1, rfl, hown, hb⟩ := h
      obtain ⟨g, cap, rfl, hg1, hg2⟩ := hown.form h0
      refine ⟨⟨g, cap, rfl, ?_⟩, hb⟩
      have hH := own_holds hown
      rcases hown.2 with ⟨h, _⟩ | ⟨g', cap', cur, he, _, _, h1, h2, _⟩
      · cases h
      · injection he with e1 e2 e3
        subst e3
        exact ⟨h1, h2, hg2, hg1, hH⟩)
    have CS' := Go.Lib.hid (fun g cap W (hH : Holds encN W g 0 l.toArray) (hg : g < W.heap.size) => sort_any g cap l.toArray W hH hg (by simpa using hlen))
    have hsz : (srt l.toArray).size = l.length := (hS.size _ (by simp; omega)).trans (by simp)
    have CK := Go.Lib.hid (fun (g cap : Nat) (W : World) (hH : Holds encN W g 0 (srt l.toArray)) (hcap : l.length ≤ cap) => Tryz.slices_Compact encN one32 eq32 ne32 0 zero32 g 0 cap (srt l.toArray) W hH (by omega) (by omega))
    have HE := Go.Lib.hid (show Lib.compactUpTo (srt l.toArray) (srt l.toArray).size = setOf l from compact_set (hS.order _ (by simp; omega)) (fun x => by rw [hS.mem _ (by simp; omega)]))
    simp only [List.size_toArray] at CS'
    rw [hsz] at CK
    clear hv C0 hS
    generalize hD : srt l.toArray = D at CS' CK HE hsz
    have HZ := Go.Lib.hid hsz
    clear hD hsz
    go_enter Tryz.func20, Tryz.ntmps20
    go_wp2_with (first | (go_at_call 27; refine (C1.out).mono ?_; rintro e w1 ⟨⟨g, cap, rfl, hg⟩, hb1⟩) | (go_at_call 30; refine (CS'.out g cap w1 hg.out.2.2.2.2 hg.out.2.2.1).mono ?_; rintro e w2 ⟨rfl, H2⟩) | (go_at_call 31; refine (CK.out g cap w2 H2.out.1 hg.out.1).mono ?_; rintro e w3 ⟨rfl, n3, hw3⟩; have H3 := Go.Lib.hid hw3; clear hw3))
    go_ret
    exact set_end2 hb1 hg.out H2.out H3.out HE.out HZ.out hl
end Go.Proofs.YtcdbeljmniaofaaGreatDoor.Srt


/- asn's Set of some numbers: what it gives lies in memory of its own. -/
namespace Go.Proofs.YtcdbeljmniaofaaGreatDoor.Srt
open Go.RowKit Go.Sort Mem Rise

/-- What is given lies behind what was. -/
def NewV (w : World) (e : Ending) : Prop := ∀ v b off m c, e = .returned v → v = .slice (some ⟨b, off, none⟩) m c → w.heap.size ≤ b

set_option maxHeartbeats 2000000 in
theorem set_new (v : Value) (l : List Nat) (w : World) (hv : U32s w v l) (h0 : 0 < l.length) (hlen : l.length < 5000) :
    Calls Tryz.prog 20 #[v] w fun e w' => Tells32 (setOf l) w e w' ∧ NewV w e := by
  have hl := hv.2
  have C0 := clone_any v l w hv (by omega)
  have hS := sorts_all 5000
  have C1 := Go.Lib.hid (C0.mono fun e w1 h => show (∃ g cap, e = .returned (.slice (some ⟨g, 0, none⟩) l.length cap) ∧ Hid (l.length ≤ cap ∧ cap ≤ maxLen ∧ g < w1.heap.size ∧ w.heap.size ≤ g ∧ Holds encN w1 g 0 l.toArray)) ∧ RowKit.Below w.heap.size w w1 from by
    obtain ⟨v1, rfl, hown, hb⟩ := h
    obtain ⟨g, cap, rfl, hg1, hg2⟩ := hown.form h0
    refine ⟨⟨g, cap, rfl, ?_⟩, hb⟩
    have hH := own_holds hown
    rcases hown.2 with ⟨h, _⟩ | ⟨g', cap', cur, he, _, _, h1, h2, _⟩
    · cases h
    · injection he with e1 e2 e3
      subst e3
      exact ⟨h1, h2, hg2, hg1, hH⟩)
  have CS' := Go.Lib.hid (fun g cap W (hH : Holds encN W g 0 l.toArray) (hg : g < W.heap.size) => sort_any g cap l.toArray W hH hg (by simpa using hlen))
  have hsz : (srt l.toArray).size = l.length := (hS.size _ (by simp; omega)).trans (by simp)
  have CK := Go.Lib.hid (fun (g cap : Nat) (W : World) (hH : Holds encN W g 0 (srt l.toArray)) (hcap : l.length ≤ cap) => Tryz.slices_Compact encN one32 eq32 ne32 0 zero32 g 0 cap (srt l.toArray) W hH (by omega) (by omega))
  have HE := Go.Lib.hid (show Lib.compactUpTo (srt l.toArray) (srt l.toArray).size = setOf l from compact_set (hS.order _ (by simp; omega)) (fun x => by rw [hS.mem _ (by simp; omega)]))
  simp only [List.size_toArray] at CS'
  rw [hsz] at CK
  clear hv C0 hS
  generalize hD : srt l.toArray = D at CS' CK HE hsz
  have HZ := Go.Lib.hid hsz
  clear hD hsz
  go_enter Tryz.func20, Tryz.ntmps20
  go_wp2_with (first | (go_at_call 27; refine (C1.out).mono ?_; rintro e w1 ⟨⟨g, cap, rfl, hg⟩, hb1⟩) | (go_at_call 30; refine (CS'.out g cap w1 hg.out.2.2.2.2 hg.out.2.2.1).mono ?_; rintro e w2 ⟨rfl, H2⟩) | (go_at_call 31; refine (CK.out g cap w2 H2.out.1 hg.out.1).mono ?_; rintro e w3 ⟨rfl, n3, hw3⟩; have H3 := Go.Lib.hid hw3; clear hw3))
  go_ret
  exact ⟨set_end2 hb1 hg.out H2.out H3.out HE.out HZ.out hl, fun v b off m c e1 e2 => by
    injection e1 with e1
    rw [← e1] at e2
    injection e2 with e2
    injection e2 with e2
    injection e2 with e2
    rw [← e2]
    exact hg.out.2.2.2.1⟩
end Go.Proofs.YtcdbeljmniaofaaGreatDoor.Srt
