/- slices.SortFunc with prefix.Cmp, at good prefixes in a block of their own. -/
import Derived.Test.YtgjdpmpbldofpaaDoorPkCmp
import Derived.Test.YtgjdpmpbldofpaaDoorPkClone
import Derived.Test.YtgjdpmpbldofpaaDoorNlriSortMath
import Derived.Test.YtgjdpmpbldofpaaDoorShelf
namespace Go.Proofs.YtgjdpmpbldofpaaDoor.PR
open Go.RowKit Go.Lib Mem Pfx Oct

/-- Good prefixes. -/
abbrev Gp := { p : Pf // good p = true ∧ p.ok }
instance : Inhabited Gp := ⟨⟨⟨0, 0⟩, by decide, by decide, by decide⟩⟩
def gcell (x : Gp) : List Value := pcell x.1
def gcmp (x y : Gp) : Int := cmpP x.1.a x.1.n y.1.a y.1.n
theorem lt_ahead (x y : Gp) : ltOf gcmp x y = ahead x.1 y.1 := rfl
theorem cmpP_neg {a : Nat} {n : Int} {b : Nat} {m : Int} : cmpP a n b m < 0 ↔ (a < b ∨ (a = b ∧ n < m)) := by
  unfold cmpP
  split
  · rename_i h; exact ⟨fun _ => h, fun _ => by decide⟩
  · rename_i h
    split
    · exact ⟨fun h2 => by omega, fun h2 => absurd h2 h⟩
    · exact ⟨fun h2 => by omega, fun h2 => absurd h2 h⟩
theorem ahead_iff {p q : Pf} : ahead p q = true ↔ (p.a < q.a ∨ (p.a = q.a ∧ p.n < q.n)) := by
  unfold ahead
  rw [decide_eq_true_iff]
  exact cmpP_neg
theorem not_ahead_iff {p q : Pf} : ahead p q = false ↔ (q.a < p.a ∨ (p.a = q.a ∧ q.n ≤ p.n)) := by
  rw [← Bool.not_eq_true, ahead_iff]
  omega
theorem swo_gcmp : Go.Sort.SWO (ltOf gcmp) where
  irrefl x := by rw [lt_ahead, not_ahead_iff]; omega
  trans x y z h1 h2 := by rw [lt_ahead, ahead_iff] at *; omega
  ntrans x y z h1 h2 := by rw [lt_ahead, not_ahead_iff] at *; omega
theorem flat_at (d : List Gp) : (Go.Sort.flatK gcell 2 d.toArray).toList = pcells (d.map Subtype.val) := by
  apply List.ext_getElem?
  intro t
  by_cases ht : t < d.length * 2
  · have h1 : (Go.Sort.flatK gcell 2 d.toArray)[t]! = (gcell d.toArray[t / 2]!)[t % 2]! := Go.Sort.get_flatK gcell 2 d.toArray t (by simpa using ht)
    have hs : t < (Go.Sort.flatK gcell 2 d.toArray).size := by simpa using ht
    rw [getElem!_pos _ t hs] at h1
    rw [Array.getElem?_toList, Array.getElem?_eq_getElem hs, h1]
    have hi : t / 2 < d.length := by omega
    have h2 : (d.map Subtype.val)[t / 2]? = some d[t / 2].1 := by rw [List.getElem?_map, List.getElem?_eq_getElem hi]; rfl
    have hr : t % 2 < (pcell d[t / 2].1).length := by simp [pcell]; omega
    have h3 := pcells_at (t / 2) _ _ h2 (t % 2) _ (List.getElem?_eq_getElem hr)
    rw [show t / 2 * 2 + t % 2 = t by omega] at h3
    rw [h3, getElem!_pos d.toArray (t / 2) (by simpa using hi)]
    unfold gcell
    rw [getElem!_pos (pcell (d.toArray[t / 2]'(by simpa using hi)).1) (t % 2) (by simp [pcell]; omega)]
    simp
  · rw [List.getElem?_eq_none (by simp; omega), List.getElem?_eq_none (by rw [pcells_len]; simp; omega)]
theorem holds_flat {W : World} {g : Nat} {cur F : Array Value} {t : TypeId} (h : W.heap[g]? = some (.cells cur t (0, 0))) (ht : cur.toList.take F.size = F.toList) : Go.Sort.Holds id W g 0 F := by
  intro j hj
  refine ⟨?_, Go.Joins.unfrozen_of_block h _⟩
  rw [Nat.zero_add, cell_of_row W g j cur _ (0, 0) h, getElem!_pos F j hj]
  have h1 : (cur.toList.take F.size)[j]? = F.toList[j]? := by rw [ht]
  rw [List.getElem?_take_of_lt hj, Array.getElem?_toList, Array.getElem?_toList] at h1
  rw [h1, Array.getElem?_eq_getElem hj]; rfl
theorem heap_flat {w : World} {g n : Nat} {os : Array Obj} {cur : Array Value} {e : TypeId} {fr : Nat × Nat} (F : Array Value) (hb : w.heap[g]? = some (.cells cur e fr)) :
    (Go.Sort.grow (Go.Sort.putRow id (Go.Sort.ahead w n) g 0 F) os).heap[g]? = some (.cells (Go.Sort.putCells id 0 F cur) e fr) := by
  have hg : g < w.heap.size := (Array.getElem?_eq_some_iff.1 hb).1
  rw [Go.Sort.heap_grow_old _ _ (by simpa using hg)]
  simp [Go.Sort.putRow, Go.Sort.mapBlock, Go.Sort.ahead, Array.getElem?_modify, hb, Go.Sort.onCells]
theorem only_flat {w : World} {g n : Nat} {os : Array Obj} (F : Array Value) : Only (fun k => k = g) w (Go.Sort.grow (Go.Sort.putRow id (Go.Sort.ahead w n) g 0 F) os) := by
  refine ⟨rfl, rfl, rfl, by simp, fun k hk hne => ?_⟩
  rw [Go.Sort.heap_grow_old _ _ (by simpa using hk)]
  have : g ≠ k := fun e => hne (by rw [e])
  simp [Go.Sort.putRow, Go.Sort.mapBlock, Go.Sort.ahead, Array.getElem?_modify, this]
theorem take_flat (cur F : Array Value) (h : F.size ≤ cur.size) : (Go.Sort.putCells id 0 F cur).toList.take F.size = F.toList := by
  apply List.ext_getElem?
  intro j
  by_cases hj : j < F.size
  · rw [List.getElem?_take_of_lt hj, Array.getElem?_toList]
    simp [Go.Sort.putCells, hj, show j < cur.size by omega]
  · rw [List.getElem?_take_eq_none (by omega), List.getElem?_eq_none (by simp; omega)]
/-- What the sort leaves. -/
def SortedAt (base : Nat) (A : Option Addr) (c : Nat) (l : List Pf) (w : World) (e : Ending) (w' : World) : Prop :=
  e = .returned (.tuple #[]) ∧ ∃ L, L.Perm l ∧ L.Pairwise (fun p q => ahead q p = false) ∧ w'.ownsRow base 24 2 (.slice A l.length c) l.length (pcells L) ∧ Below base w w'
theorem cmp_lays (blk size : Nat) (w : World) : CmpLays Tryd.prog 24 #[] gcell 2 gcmp blk 0 size w :=
  fun _ _ _ _ x y => (cmp_laid x.1.a x.1.n y.1.a y.1.n x.2.2.1 y.2.2.1 x.2.1 y.2.1 _).mono fun _ _ ⟨he, q, os', hw⟩ => ⟨he, q, os', hw⟩
theorem sub_list {l : List Pf} (hg : l.all good = true) (hok : Oks l) : ∃ d : List Gp, d.map Subtype.val = l := by
  refine ⟨l.pmap (fun p h => ⟨p, h⟩) (fun p hp => ⟨List.all_eq_true.1 hg p hp, hok p hp⟩), ?_⟩
  rw [List.map_pmap]
  simp
set_option maxRecDepth 100000 in
set_option maxHeartbeats 1000000 in
theorem sortfunc_blk (g c : Nat) (l : List Pf) (base : Nat) (w : World) (hb : Blk w g c l) (hbase : base ≤ g) (hg : l.all good = true) (hok : Oks l) (hn : l.length ≤ 100000) :
    Calls Tryd.prog 47 #[.slice (some ⟨g, 0, none⟩) l.length c, .func (.func 24) #[] #[]] w (SortedAt base (some ⟨g, 0, none⟩) c l w) := by
  obtain ⟨d, rfl⟩ := sub_list hg hok
  have hlt := hb.lt
  obtain ⟨h1, h2, cur, h3, h4, h5⟩ := hb
  have eg : ∀ args w, (callFunc 24 args).run Tryd.prog w = .ok (.enter 24 args) w := enters_of Tryd.func24 (by kernel_rfl) rfl
  have hsz : d.toArray.size = (d.map Subtype.val).length := by simp
  have hH : Go.Sort.HoldsK gcell 2 w g 0 d.toArray := holds_flat h3 (by rw [flat_at, Go.Sort.size_flatK, ← h5]; simp)
  have hcon := AnyQ.slices_SortFunc Tryd.sortPf 2 Tryd.isAgg24 Tryd.sizeOf24 gcell (fun _ => rfl) (fun x v hv => by simp only [gcell, pcell, List.mem_cons, List.not_mem_nil, or_false] at hv; rcases hv with rfl | rfl <;> rfl) gcmp swo_gcmp 24 #[] g 0 c d.toArray w eg (cmp_lays g d.toArray.size w) hH hlt (by rw [hsz]; omega)
  change Calls Tryd.prog 47 _ _ _ at hcon
  rw [hsz] at hcon
  refine hcon.mono fun e w' ⟨he, d', n, os, hp, hs, hw⟩ => ⟨he, d'.toList.map Subtype.val, ?_, ?_, ?_, ?_⟩
  · obtain ⟨p1, _, p3⟩ := hp
    have e1 : d'.extract 0 (d.map Subtype.val).length = d' := by rw [← hsz, ← p1]; simp
    have e2 : d.toArray.extract 0 (d.map Subtype.val).length = d.toArray := by rw [← hsz]; simp
    rw [e1, e2] at p3
    exact p3.map _
  · rw [List.pairwise_map, List.pairwise_iff_getElem]
    intro i j hi hj hij
    have h9 : d'.size = d.length := by simpa using hp.1
    have h8 : j < (d.map Subtype.val).length := by
      rw [Array.length_toList] at hj
      rw [List.length_map]
      omega
    have h := hs i j (Nat.zero_le _) hij h8
    rw [lt_ahead] at h
    rw [getElem!_pos d' j (by simpa using hj), getElem!_pos d' i (by simpa using hi)] at h
    simpa using h
  · have hsd : d'.size = d.length := by have := hp.1; simpa using this
    rw [hw]
    have hl : (d'.toList.map Subtype.val).length = (d.map Subtype.val).length := by simp [hsd]
    refine ⟨by rw [pcells_len, hl], .inr ⟨g, c, _, rfl, hbase, heap_flat _ h3, h1, h2, by simp [Go.Sort.putCells, h4], ?_⟩⟩
    have e3 := flat_at d'.toList
    rw [Array.toArray_toList] at e3
    rw [← e3]
    have e4 : (Go.Sort.flatK gcell 2 d').size = (d.map Subtype.val).length * 2 := by simp [hsd]
    rw [← e4]
    exact take_flat cur _ (by rw [e4, h4]; omega)
  · rw [hw]
    exact (only_flat _).below (fun k hk => by rw [hk]; exact hbase) (by omega)
set_option maxHeartbeats 2000000 in
theorem insertion_nil (fv : Value) (w : World) : Calls Tryd.prog 55 #[.slice none 0 0, .int .i64 0, .int .i64 0, fv] w fun e w' => e = .returned (.tuple #[]) ∧ w' = w := by
  go_enter Tryd.func55, Tryd.ntmps55
  go_wp2
  refine wp_loop_rounds 1 ?_
  rw [rounds_succ]
  go_wp2
  go_end0
  exact ⟨rfl, rfl⟩
set_option maxHeartbeats 2000000 in
theorem pdq_nil (lim : Int) (fv : Value) (w : World) : Calls Tryd.prog 52 #[.slice none 0 0, .int .i64 0, .int .i64 0, .int .i64 lim, fv] w fun e w' => e = .returned (.tuple #[]) ∧ w' = w := by
  have hi := Go.Lib.hid (insertion_nil fv)
  go_enter Tryd.func52, Tryd.ntmps52
  go_wp2
  refine wp_loop_rounds 1 ?_
  rw [rounds_succ]
  go_wp2_with (go_at_call 55; refine (hi.out _).mono ?_; rintro e w' ⟨rfl, rfl⟩)
  (try simp only [Exit.inBlock, Exit.then]); refine bodyPost_ret (results_none rfl _ _ _) rfl ?_
  exact ⟨rfl, rfl⟩
set_option maxHeartbeats 2000000 in
theorem sortfunc_nil (w : World) (base : Nat) (hb : base ≤ w.heap.size) : Calls Tryd.prog 47 #[.slice none 0 0, .func (.func 24) #[] #[]] w (SortedAt base none 0 [] w) := by
  have hp := Go.Lib.hid (fun lim W => pdq_nil lim (.func (.func 24) #[] #[]) W)
  have hl := Go.Lib.hid (fun W => show Calls Tryd.prog 53 #[.int .u64 0] W fun e w' => e = .returned (.int .i64 (Lib.bitLen 0 : Nat)) ∧ w' = W from Tryd.bits_Len 0 W (by omega) (by omega))
  go_enter Tryd.func47, Tryd.ntmps47
  go_wp2_with (first
    | (go_at_call 53; refine (hl.out _).mono ?_; rintro e w' ⟨rfl, rfl⟩)
    | (go_at_call 52; refine (hp.out _ _).mono ?_; rintro e w' ⟨rfl, rfl⟩))
  go_end0
  exact ⟨rfl, [], List.Perm.refl _, List.Pairwise.nil, own_nil2 _ _, Below.refl _ _ |>.mono hb⟩
theorem sortfunc_any (A : Option Addr) (c : Nat) (l : List Pf) (base : Nat) (w : World) (ho : w.ownsRow base 24 2 (.slice A l.length c) l.length (pcells l)) (hb : base ≤ w.heap.size) (hg : l.all good = true) (hok : Oks l) (hn : l.length ≤ 100000) :
    Calls Tryd.prog 47 #[.slice A l.length c, .func (.func 24) #[] #[]] w (SortedAt base A c l w) := by
  rcases own_blkcases ho with ⟨rfl, rfl, rfl⟩ | ⟨g, rfl, hg1, hblk⟩
  · exact sortfunc_nil w base hb
  · exact sortfunc_blk g c l base w hblk hg1 hg hok hn
end Go.Proofs.YtgjdpmpbldofpaaDoor.PR
