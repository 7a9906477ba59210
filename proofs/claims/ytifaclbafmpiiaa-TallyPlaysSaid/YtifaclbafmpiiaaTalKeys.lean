/- What Keys tells: the keys, in order, whatever the map's. -/
import Derived.Test.YtifaclbafmpiiaaTalRange
import Derived.Test.YtifaclbafmpiiaaSortAny
import Derived.Sort.OwnSorted
namespace Go.Proofs.Ytifaclbafmpiiaa.Tal
open Go.RowKit Mem Go.Maps

def keysL (l : List Cnt) : List Nat := l.map Cnt.key
theorem keys_sorted {l : List Cnt} (hs : Sorted l) {ss : List Nat} (hp : ss.Perm (keysL l)) : Srt.srt ss.toArray = (keysL l).toArray := by
  have hlen : ss.length = (keysL l).length := hp.length_eq
  refine (Srt.srt_of ⟨⟨?_, ?_, ?_⟩, ?_⟩).symm
  · simp [hlen]
  · intro i hi
    have hi2 : ss.length ≤ i := by simpa using hi
    rw [getElem!_neg _ i (by simp; omega), getElem!_neg _ i (by simp; omega)]
  · have e1 : (keysL l).toArray.extract 0 ss.toArray.size = (keysL l).toArray := by rw [List.size_toArray, hlen, ← List.size_toArray]; exact Array.extract_size
    have e2 : ss.toArray.extract 0 ss.toArray.size = ss.toArray := Array.extract_size
    rw [e1, e2]
    exact hp.symm
  · intro i j _ hij hj
    have hj2 : j < (keysL l).length := by rw [← hlen]; simpa using hj
    rw [getElem!_pos _ i (by simp; omega), getElem!_pos _ j (by simpa using hj2)]
    have h := List.pairwise_iff_getElem.1 (List.Pairwise.map Cnt.key (fun a b (h : a.key < b.key) => h) hs) i j (by show i < (keysL l).length; omega) hj2 hij
    unfold Srt.ltN
    simp only [List.getElem_toArray, decide_eq_false_iff_not]
    show ¬ (keysL l)[j] < (keysL l)[i]
    exact Nat.not_lt.2 (Nat.le_of_lt h)
theorem row_holds {w : World} {g cap : Nat} {d : List Nat} (h : Go.Sort.Holds Srt.encN w g 0 d.toArray) (hg : g < w.heap.size) (h1 : d.length ≤ cap) (h2 : cap ≤ maxLen) (h32 : ∀ n ∈ d, n < 4294967296) : U32s w (.slice (some ⟨g, 0, none⟩) d.length cap) d := by
  refine ⟨⟨by simp, some ⟨g, 0, none⟩, cap, rfl, h1, h2, fun _ => ⟨g, 0, rfl, hg, fun i x hx => ?_⟩⟩, h32⟩
  rw [List.getElem?_map] at hx
  cases hi : d[i]? with
  | none => rw [hi] at hx; cases hx
  | some y =>
    rw [hi] at hx
    obtain rfl : Value.int .u32 y = x := by simpa using hx
    obtain ⟨hlt, he⟩ := List.getElem?_eq_some_iff.1 hi
    have := (h i (by simpa using hlt)).1
    rw [getElem!_pos _ i (by simpa using hlt)] at this
    simpa [Srt.encN, he] using this

/-- A row of the call's own, as the sort takes it. -/
theorem holds_own {w : World} {base g cap : Nat} {l : List Nat} (h : w.ownsRow base 23 1 (.slice (some ⟨g, 0, none⟩) l.length cap) l.length (l.map fun n : Nat => Value.int .u32 n)) : Go.Sort.Holds Srt.encN w g 0 l.toArray := by
  intro j hj
  have hj2 : j < l.length := by simpa using hj
  refine ⟨?_, by rw [Nat.zero_add]; exact h.frozenAt j⟩
  rw [Nat.zero_add, h.cellAt j (by omega), List.getElem?_map, List.getElem?_eq_getElem hj2]
  simp [hj2, Srt.encN]
theorem elemU : ∃ i, IsElem Try.prog 41 23 1 4 i (.int .u32 0) := IsElem.mk_ Try.underlying41 (by kernel_rfl) rfl (by decide)
theorem oneU (n : Int) : ∀ u ∈ [Value.int .u32 n], u.oneCell' = true := fun u hu => by
  obtain rfl := List.mem_singleton.1 hu
  rfl
set_option maxRecDepth 100000 in
set_option maxHeartbeats 4000000 in
theorem keys_any (v : Value) (l : List Cnt) (F : Nat → Prop) (w : World) (hT : T w v l F) (hlen : l.length < 5000) :
    Calls Try.prog 16 #[v] w (Tells32 (keysL l) w) := by
  obtain ⟨hgood, b, m, rfl, hb, h⟩ := hT
  have c0 := cell_of hb
  have hlt : b < w.heap.size := (Array.getElem?_eq_some_iff.1 hb).1
  have h32 : ∀ n ∈ keysL l, n < 4294967296 := fun n hn => by obtain ⟨r, hr, rfl⟩ := List.mem_map.1 hn; exact hgood.2.2.2 r hr
  obtain ⟨i0, hi, hz0, hz1, hz2⟩ := info_parts (show (Try.prog.info? 23).map (fun i => (i.zero, i.size, i.bytes)) = some (some (.int .u32 0), 1, 4) by kernel_rfl)
  rcases h with ⟨rfl, rfl, rfl⟩ | ⟨bm, rfl, hne, hown, rfl⟩
  · have hlen0 : ∀ (ty : TypeId) (W : World), (Builtin.len_ #[58] ty #[.map none]).run Try.prog W = .ok (.int .i64 0) W := fun ty W => Maps.len_nil Try.underlying58 ty
    have HC := Go.Lib.hid (fun (W : World) (h : Below w.heap.size w W) => (h.cell (p := ⟨b, 0, none⟩) hlt).trans c0)
    clear hb hgood hlen h32
    go_enter Try.func16, Try.ntmps16
    go_wp2_with (at_make; refine wpList_make_own _ rfl _ _ 41 rfl w.heap.size 23 i0 (.int .u32 0) 1 Try.underlying41 hi hz0 hz1 _ _ _ 0 rfl rfl rfl (by omega) (Nat.zero_le _) (Nat.le_refl _) ?_; intro w1 hrow1 hg1; have hb1 := (Below.refl w.heap.size w).grown hg1 (Nat.le_refl _) (fun j hj => by cases hj); have k1 := HC.out w1 hb1; have hr := run_range_nilMap (P := Try.prog) w1 _ _ _ Try.underlying58; have hn := fun ty => run_next_nilMap (P := Try.prog) w1 ty 0 0 #[])
    refine wp_loop_rounds 1 ?_
    rw [rounds_succ]
    have hrow2 := hrow1.alloc (.mapIter none 0 #[] 0)
    rcases hrow2.2 with ⟨hnil, _⟩ | ⟨g, cap, cur, hv, hbase, hbk, h1, h2, h3, h4⟩
    · cases hnil
    cases hv
    have hH : Go.Sort.Holds Srt.encN (w1.alloc (.mapIter none 0 #[] 0)) w.heap.size 0 ([] : List Nat).toArray := fun j hj => absurd hj (by simp)
    have hgl := (Array.getElem?_eq_some_iff.1 hbk).1
    have hc := Srt.sort_any w.heap.size 0 ([] : List Nat).toArray _ hH hgl (by simp)
    have es : Srt.srt ([] : List Nat).toArray = (keysL []).toArray := keys_sorted (l := []) List.Pairwise.nil (List.Perm.refl _)
    rw [es] at hc
    have CS := Go.Lib.hid (show Calls Try.prog 25 #[.slice (some ⟨w.heap.size, 0, none⟩) 0 0] (w1.alloc (.mapIter none 0 #[] 0)) (Srt.Sorted1 w.heap.size (keysL []).toArray (w1.alloc (.mapIter none 0 #[] 0))) from hc)
    have HN := Go.Lib.hid (hb1.alloc hg1.size (.mapIter none 0 #[] 0))
    have HG := Go.Lib.hid hgl
    clear hrow1 hrow2 hbk hH hc h1 h2 h3 h4 hgl hbase hg1 hb1 es
    go_wp2_with (go_at_call 25; refine (CS.out).mono ?_; rintro e w9 ⟨rfl, hL⟩)
    go_ret
    obtain ⟨y1, y2⟩ := hL.out
    exact ⟨_, rfl, row_holds (d := []) (cap := 0) y1 (Nat.lt_of_lt_of_le HG.out y2.size) (Nat.le_refl _) (Nat.zero_le _) (fun n hn => by simp at hn), HN.out.trans y2⟩
  · have hs0 := hown.lt
    have hsz := size_dat l
    have HG := Go.Lib.hid hgood.1
    have H32 := Go.Lib.hid h32
    have HO := Go.Lib.hid hown
    have HL := Go.Lib.hid hlen
    have HC := Go.Lib.hid (fun (W : World) (h : Below w.heap.size w W) => (h.cell (p := ⟨b, 0, none⟩) hlt).trans c0)
    clear hb hgood hown h32 hlen
    go_enter Try.func16, Try.ntmps16
    go_wp2_with (first
      | (at_len; refine wpList_len_own _ rfl _ 58 rfl 23 62 Try.underlying58 cntR bm l.length (dat l) rfl HO.out ?_; rw [hsz])
      | (at_make; refine wpList_make_own _ rfl _ _ 41 rfl w.heap.size 23 i0 (.int .u32 0) 1 Try.underlying41 hi hz0 hz1 _ _ _ l.length rfl rfl rfl (by have := HL.out; rw [hz2]; omega) (by have := HL.out; unfold maxLen; omega) (Nat.le_refl _) ?_; intro w1 hrow1 hg1; have hb1 := (Below.refl w.heap.size w).grown hg1 (Nat.le_refl _) (fun j hj => by cases hj); have k1 := HC.out w1 hb1)
      | (at_range; refine wpList_range_own _ rfl _ 58 rfl 23 62 law32 Try.underlying58 cntR bm l.length (dat l) rfl (HO.out.kept hg1 (by simp)) ?_; intro w0 hrg0 hg0 hs9))
    go_frame
    go_loopw [3] (fun v wr => ∃ (left : Lit → Bool) (cnt : Nat) (ss : List Nat), wr.ranges Try.prog 23 cntR bm w1.heap.size l.length (dat l) left cnt ∧ ss.length + cnt ≤ l.length ∧
        wr.ownsRow w.heap.size 23 1 v ss.length (ss.map fun n : Nat => Value.int .u32 n) ∧ v ≠ .slice none 0 0 ∧ ss.Perm ((cameS l left).map Cnt.key) ∧ Below w.heap.size w wr)
      (fun _ wr => wr.rangeLeft bm w1.heap.size)
    case atStart =>
      exact ⟨_, _, [], hrg0, by rw [size_dat]; simp, hrow1.kept hg0 (Or.inr (by simp [Value.ownBlock])), by simp, by rw [came_start]; exact List.Perm.refl _,
        hb1.grown hg0 hg1.size (fun j hj => by cases hj)⟩
    case round =>
      obtain ⟨left, cnt, ss, hrg, hcs, hrow, hnn, hC, hnx⟩ := hrel
      go_wp2_with (at_next; refine wpList_next_T _ rfl _ rfl bm w1.heap.size l.length l _ _ rfl hrg ?_ ?_)
      · intro _ hl0
        rw [came_end hl0] at hC
        rcases hrow.2 with ⟨hnil, _⟩ | ⟨g, cap, cur, rfl, hbase, hbk, h1, h2, h3, h4⟩
        · exact absurd hnil hnn
        have hH : Go.Sort.Holds Srt.encN wr g 0 ss.toArray := holds_own hrow
        have hgl : g < wr.heap.size := (Array.getElem?_eq_some_iff.1 hbk).1
        have hc := Srt.sort_any g cap ss.toArray wr hH hgl (by have := HL.out; simp; omega)
        rw [List.size_toArray, keys_sorted HG.out hC] at hc
        have hlk : ss.length = (keysL l).length := hC.length_eq
        have HX := Go.Lib.hid (⟨hbase, hgl, h1, h2, hlk⟩ : w.heap.size ≤ g ∧ g < wr.heap.size ∧ ss.length ≤ cap ∧ cap ≤ maxLen ∧ ss.length = (keysL l).length)
        have HN := Go.Lib.hid hnx
        have CS := Go.Lib.hid hc
        clear hrow hbk hH hC hrg hc h3 h4 hlk h1 h2 hgl hbase hnx
        go_wp2_with (go_at_call 25; refine (CS.out).mono ?_; rintro e w9 ⟨rfl, hL⟩)
        go_ret
        obtain ⟨x1, x2, x3, x4, x5⟩ := HX.out
        obtain ⟨y1, y2⟩ := hL.out
        rw [x5] at x3 ⊢
        exact ⟨_, rfl, row_holds y1 (Nat.lt_of_lt_of_le x2 y2.size) x3 x4 H32.out, HN.out.trans (y2.mono x1)⟩
      · intro i x w2 cnt2 hx hlx hrg2 hlt2 hg2 hs2 hen
        have hrow2 := hrow.kept hg2 (Or.inr (row_ne_iter hrow hrg).symm)
        have hbl := HO.out.lt
        have hl5 := HL.out
        have hst := (came_step HG.out hx hlx).map Cnt.key
        rw [List.map_append] at hst
        have hC2 : (ss ++ [x.key]).Perm ((cameS l (fun z => left z && !z.sameKey (.int .u32 x.key))).map Cnt.key) := (hC.append_right [x.key]).trans hst.symm
        have hb2 := hnx.grown hg2 hnx.size (fun j hj => by cases hj; exact hg1.size)
        have HM := Go.Lib.hid (show cnt2 < wr.rangeLeft bm w1.heap.size by rw [hrg.left_eq]; exact hlt2)
        have HC2 := Go.Lib.hid hC2
        have HB2 := Go.Lib.hid hb2
        have HR2 := Go.Lib.hid hrg2
        have HW2 := Go.Lib.hid hrow2
        have HCS := Go.Lib.hid (show ss.length + 1 + cnt2 ≤ l.length by omega)
        have hb2s := hb2.size
        obtain ⟨iE, E⟩ := elemU
        clear hs2 hst hC2 hb2 hrg2 hrow2 hrow hrg hg2 hlt2 hcs hC hnx hnn hx hlx
        go_wp2_with (at_builtin; refine wpList_append_row rfl (.tmp 22) (.tmp 24) rfl E w.heap.size _ ss.length _ rfl (HW2.out.alloc _) _ 1 [.int .u32 x.key] rfl (Row.one _ _ _) (oneU _) (by unfold maxLen; have := HCS.out; omega) (by have := HCS.out; omega) (by simp; omega) (ss.length + 1) rfl ?_; intro A3 c3 w3 hown3 hg3 hat3 hb3; have H3 := Go.Lib.hid hown3; have G3 := Go.Lib.hid hg3; have B3 := Go.Lib.hid hb3; clear hown3 hg3 hat3 hb3)
        have hrg3 := (HR2.out.alloc _).kept G3.out (row_ne_low HW2.out hbl) (row_ne_iter HW2.out HR2.out)
        go_roundw
        case rel =>
          refine ⟨_, cnt2, ss ++ [x.key], hrg3, by simp; have := HCS.out; omega, by simpa using H3.out, by simp, HC2.out, (HB2.out.alloc hb2s _).trans B3.out⟩
        case measure => rw [hrg3.left_eq]; exact HM.out
end Go.Proofs.Ytifaclbafmpiiaa.Tal
