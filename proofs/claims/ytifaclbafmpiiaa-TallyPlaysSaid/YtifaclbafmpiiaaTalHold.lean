/- A tally as it stands in memory: a block that leads to a map, or to none; what New, Of, Turn and Drop do to it. -/
import Derived.Test.YtifaclbafmpiiaaTalDat
import Derived.Test.YtifaclbafmpiiaaTalPair
import Derived.Maps.OwnOps
import Derived.RegionTactic
namespace Go.Proofs.Ytifaclbafmpiiaa.Tal
open Go.RowKit Mem Go.Maps

/-- Rows that a tally may have. -/
def Good (l : List Cnt) : Prop := Sorted l ∧ l.length ≤ 10000 ∧ Under 549755813888 l ∧ ∀ r ∈ l, r.key < 4294967296
theorem good_nil : Good [] := ⟨List.Pairwise.nil, by simp, fun r h => by simp at h, fun r h => by simp at h⟩
/-- Where the counts lie. -/
def Held (W : World) (b : Nat) (m : Option Nat) (l : List Cnt) (F : Nat → Prop) : Prop :=
  (m = none ∧ l = [] ∧ F = fun k => k = b) ∨ ∃ bm, m = some bm ∧ bm ≠ b ∧ W.ownsMap Try.prog 23 cntR bm l.length (dat l) ∧ F = fun k => k = b ∨ k = bm
/-- A tally with these rows stands in these blocks. -/
def T (W : World) (v : Value) (l : List Cnt) (F : Nat → Prop) : Prop :=
  Good l ∧ ∃ b m, v = .pointer (some ⟨b, 0, none⟩) ∧ W.heap[b]? = some (.cells #[.map m] 60) ∧ Held W b m l F

theorem law32 : Keyed Try.prog 23 := int_keyed Try.underlying23
theorem zeroC (W : World) : (zeroValue 62).run Try.prog W = .ok (.agg #[.int .i64 0, .int .i64 0]) W := by kernel_rfl
theorem key32 {k : Nat} (h : k < 4294967296) : keyOf Try.prog 23 (.int .u32 k) = some (.int .u32 k) := keyOf_int_mk Try.underlying23 (by simp [Lit.wf, IntKind.min, IntKind.max, IntKind.signed, IntKind.bits]; omega)
theorem owns_block {W W' : World} {bm n : Nat} {D : DataW Unit} (h : W.ownsMap Try.prog 23 cntR bm n D) (hb : W'.heap[bm]? = W.heap[bm]?) : W'.ownsMap Try.prog 23 cntR bm n D := by
  obtain ⟨es, clock, h1, h2⟩ := h
  exact ⟨es, clock, hb.trans h1, h2⟩
theorem owns_size {W : World} {bm n : Nat} {D : DataW Unit} (h : W.ownsMap Try.prog 23 cntR bm n D) : W.ownsMap Try.prog 23 cntR bm (Maps.size D) D := by
  obtain ⟨es, clock, h1, h2, h3, h4⟩ := h
  refine ⟨es, clock, h1, h2, ?_, h4⟩
  subst h4
  simp [Maps.size, length_sorted]
theorem face_T : Face T where
  lt := by
    rintro W v l F k ⟨_, b, m, _, hb, h⟩ hF
    have hlt : b < W.heap.size := (Array.getElem?_eq_some_iff.1 hb).1
    rcases h with ⟨_, _, rfl⟩ | ⟨bm, _, _, hown, rfl⟩
    · obtain rfl : k = b := hF
      exact hlt
    · rcases hF with rfl | rfl
      · exact hlt
      · exact hown.lt
  keep := by
    rintro W W' v l F ⟨hg, b, m, hv, hb, h⟩ _ hk
    rcases h with ⟨hm, hl, rfl⟩ | ⟨bm, hm, hne, hown, rfl⟩
    · exact ⟨hg, b, m, hv, (hk b rfl).trans hb, .inl ⟨hm, hl, rfl⟩⟩
    · exact ⟨hg, b, m, hv, (hk b (.inl rfl)).trans hb, .inr ⟨bm, hm, hne, owns_block hown (hk bm (.inr rfl)), rfl⟩⟩
theorem cell_of {W : World} {b : Nat} {x : Value} {t : TypeId} (h : W.heap[b]? = some (.cells #[x] t)) : W.cell? ⟨b, 0, none⟩ = some x := by
  simp [World.cell?, h]
/-- A look-up. -/
theorem look_T {W : World} {bm n : Nat} {l : List Cnt} (h : W.ownsMap Try.prog 23 cntR bm n (dat l)) {k : Nat} (hk : k < 4294967296) :
    (Instr.lookup 58 (.map (some bm)) (.int .u32 k) false).run Try.prog W = .ok (.agg #[.int .i64 (ofG Cnt.up l k), .int .i64 (ofG Cnt.down l k)]) W := by
  obtain ⟨v, ps, hrun, hv⟩ := h.lookup law32 Try.underlying58 (zeroC W) (cntR_mk 0 0) (key32 hk)
  rw [at_dat] at hv
  obtain ⟨u, d, rfl, he⟩ := cntR_inv hv
  obtain ⟨rfl, rfl⟩ := cntD_inj (congrArg Prod.fst he)
  exact hrun
theorem look_ok_T {W : World} {bm n : Nat} {l : List Cnt} (h : W.ownsMap Try.prog 23 cntR bm n (dat l)) {k : Nat} (hk : k < 4294967296) :
    (Instr.lookup 58 (.map (some bm)) (.int .u32 k) true).run Try.prog W = .ok (.tuple #[.agg #[.int .i64 (ofG Cnt.up l k), .int .i64 (ofG Cnt.down l k)], .bool (idx l k).isSome]) W := by
  obtain ⟨v, ps, hrun, hv⟩ := h.look_ok law32 Try.underlying58 (zeroC W) (cntR_mk 0 0) (key32 hk)
  rw [at_dat] at hv
  rw [has_dat] at hrun
  obtain ⟨u, d, rfl, he⟩ := cntR_inv hv
  obtain ⟨rfl, rfl⟩ := cntD_inj (congrArg Prod.fst he)
  exact hrun
theorem look_nil_T (W : World) {k : Nat} (hk : k < 4294967296) (c : Bool) :
    (Instr.lookup 58 (.map none) (.int .u32 k) c).run Try.prog W = .ok (if c then .tuple #[.agg #[.int .i64 0, .int .i64 0], .bool false] else .agg #[.int .i64 0, .int .i64 0]) W := by
  have h := Maps.look_nil (w := W) c law32 Try.underlying58 (zeroC W) (key32 hk)
  rw [h]

theorem new_any (w : World) : Calls Try.prog 8 #[] w (NewF T w) := by
  have hz : (zeroValue 60).run Try.prog w = .ok (.agg #[.map none]) w := by kernel_rfl
  go_enter Try.func8, Try.ntmps8
  go_wp2
  go_ret
  refine ⟨_, fun k => k = w.heap.size, rfl, ⟨good_nil, _, _, rfl, ?_, .inl ⟨rfl, rfl, rfl⟩⟩, fun k hk => by rw [hk]; exact Nat.le_refl _, (Below.refl _ w).alloc (Nat.le_refl _) _⟩
  exact (MapKept.heap_alloc w _).1

theorem of_any (v : Value) (l : List Cnt) (F : Nat → Prop) (key : Nat) (w : World) (hk : key < 4294967296) (hT : T w v l F) :
    Calls Try.prog 17 #[v, .int .u32 key] w (Tells (.tuple #[.int .i64 (ofG Cnt.up l key), .int .i64 (ofG Cnt.down l key)]) w) := by
  obtain ⟨_, b, m, rfl, hb, h⟩ := hT
  have c0 := cell_of hb
  have HB := Go.Lib.hid (show Below w.heap.size w (w.alloc (.cells #[.int .i64 (ofG Cnt.up l key), .int .i64 (ofG Cnt.down l key)] 62)).drew from ((Below.refl _ w).alloc (Nat.le_refl _) _).drew)
  rcases h with ⟨rfl, rfl, _⟩ | ⟨bm, rfl, _, hown, _⟩
  · have hr := look_nil_T w hk false
    simp only [ofG] at HB ⊢
    clear hb
    go_enter Try.func17, Try.ntmps17
    go_wp2
    go_region
    all_goals (go_wp2; go_ret2; exact ⟨rfl, HB.out⟩)
  · have hr := look_T hown hk
    generalize ofG Cnt.up l key = U at HB hr ⊢
    generalize ofG Cnt.down l key = D at HB hr ⊢
    clear hb hown
    go_enter Try.func17, Try.ntmps17
    go_wp2
    go_region
    all_goals (go_wp2; go_ret2; exact ⟨rfl, HB.out⟩)

/-- Counts exchanged; a key struck. -/
def turnS (l : List Cnt) (key : Nat) : List Cnt := match idx l key with
  | none => l
  | some i => match l[i]? with
    | some r => l.set i ⟨key, r.down, r.up⟩
    | none => l
theorem of_idx (g : Cnt → Nat) : ∀ {l : List Cnt} {k i : Nat} {r : Cnt}, idx l k = some i → l[i]? = some r → ofG g l k = g r
  | [], k, i, r, h, _ => by cases h
  | x :: l, k, i, r, h, hr => by
    rw [idx_cons] at h
    unfold ofG
    by_cases hx : x.key = k
    · rw [if_pos hx] at h ⊢
      obtain rfl : 0 = i := by simpa using h
      obtain rfl : x = r := by simpa using hr
      rfl
    · rw [if_neg hx] at h ⊢
      obtain ⟨j, hj, rfl⟩ : ∃ j, idx l k = some j ∧ j + 1 = i := by
        cases hq : idx l k with
        | none => rw [hq] at h; cases h
        | some j => rw [hq] at h; exact ⟨j, rfl, by simpa using h⟩
      exact of_idx g hj (by simpa using hr)
theorem of_none (g : Cnt → Nat) : ∀ {l : List Cnt} {k : Nat}, idx l k = none → ofG g l k = 0
  | [], _, _ => rfl
  | x :: l, k, h => by
    rw [idx_cons] at h
    unfold ofG
    by_cases hx : x.key = k
    · rw [if_pos hx] at h; cases h
    · rw [if_neg hx] at h ⊢
      exact of_none g (by simpa using h)
theorem good_set {l : List Cnt} {i : Nat} {r x : Cnt} (h : Good l) (hx : l[i]? = some x) (hk : r.key = x.key) (hu : r.up ≤ 549755813888) (hd : r.down ≤ 549755813888) : Good (l.set i r) := by
  obtain ⟨h1, h2, h3, h4⟩ := h
  refine ⟨sorted_set h1 hx hk, by rw [List.length_set]; exact h2, fun z hz => ?_, fun z hz => ?_⟩
  · rcases List.mem_or_eq_of_mem_set hz with hz | rfl
    · exact h3 z hz
    · exact ⟨hu, hd⟩
  · rcases List.mem_or_eq_of_mem_set hz with hz | rfl
    · exact h4 z hz
    · rw [hk]; exact h4 x (List.mem_of_getElem? hx)
theorem good_ins {l : List Cnt} {r : Cnt} (h : Good l) (hn : idx l r.key = none) (hk : r.key < 4294967296) (hu : r.up ≤ 549755813888) (hd : r.down ≤ 549755813888) (hl : l.length < 10000) : Good (insS l r) := by
  obtain ⟨h1, h2, h3, h4⟩ := h
  refine ⟨sorted_ins h1 hn, by rw [insS_len]; omega, under_ins h3 (Nat.le_refl _) ⟨hu, hd⟩, fun z hz => ?_⟩
  rcases mem_ins.1 hz with rfl | hz
  · exact hk
  · exact h4 z hz
theorem good_cut {l : List Cnt} {k : Nat} (h : Good l) : Good (cutS l k) := by
  obtain ⟨h1, h2, h3, h4⟩ := h
  exact ⟨sorted_cut h1, Nat.le_trans (List.length_filter_le _ _) h2, fun z hz => h3 z (List.mem_filter.1 hz).1, fun z hz => h4 z (List.mem_filter.1 hz).1⟩
/-- The same block; the map's block alone has turned. -/
theorem moved_map {w w1 w' : World} {bm : Nat} {F : Nat → Prop} (hb : Below w.heap.size w w1) (hg : w1.grownBy w' (some bm)) (hF : F bm) : Moved F F w w' :=
  ⟨hg.os.trans hb.os, hg.tape.trans hb.tape, hg.output.trans hb.output, Nat.le_trans hb.size hg.size, fun k hk hn => (hg.block k (Nat.lt_of_lt_of_le hk hb.size) (fun e => hn (by injection e with e; rw [e]; exact hF))).trans (hb.block k hk), fun _ h => .inl h⟩
theorem held_map {w w1 w' : World} {b bm : Nat} {o : Obj} (hlt : b < w.heap.size) (hb0 : w.heap[b]? = some o) (hb : Below w.heap.size w w1) (hg : w1.grownBy w' (some bm)) (hne : bm ≠ b) : w'.heap[b]? = some o :=
  (hg.block b (Nat.lt_of_lt_of_le hlt hb.size) (fun e => hne (by injection e with e; exact e.symm))).trans ((hb.block b hlt).trans hb0)
theorem Moved.same {F : Nat → Prop} {w w' : World} (hb : Below w.heap.size w w') : Moved F F w w' := ⟨hb.os, hb.tape, hb.output, hb.size, fun k hk _ => hb.block k hk, fun _ h => .inl h⟩
/-- What Turn and Drop give. -/
def TurnF (v : Value) (F : Nat → Prop) (x : Value) (l : List Cnt) (w : World) (e : Ending) (w' : World) : Prop := e = .returned x ∧ T w' v l F ∧ Moved F F w w'

set_option maxRecDepth 100000 in
set_option maxHeartbeats 2000000 in
theorem turn_any (v : Value) (l : List Cnt) (F : Nat → Prop) (key : Nat) (w : World) (hk : key < 4294967296) (hT : T w v l F) :
    Calls Try.prog 10 #[v, .int .u32 key] w (TurnF v F (.tuple #[]) (turnS l key) w) := by
  have hT0 := hT
  obtain ⟨hgood, b, m, rfl, hb, h⟩ := hT
  have c0 := cell_of hb
  have hlt : b < w.heap.size := (Array.getElem?_eq_some_iff.1 hb).1
  cases hi : idx l key with
  | none =>
    have hS : turnS l key = l := by unfold turnS; rw [hi]
    rw [hS]
    have HB0 : ∀ u d : Int, Below w.heap.size w (w.alloc (.cells #[.int .i64 u, .int .i64 d] 62)) := fun u d => (Below.refl _ w).alloc (Nat.le_refl _) _
    have HB := Go.Lib.hid HB0
    have HT := Go.Lib.hid hT0
    rcases h with ⟨rfl, rfl, rfl⟩ | ⟨bm, rfl, _, hown, rfl⟩
    · have hr := look_nil_T w hk true
      clear hb HB0 hT0 hgood
      go_enter Try.func10, Try.ntmps10
      go_wp2
      go_end0
      exact ⟨rfl, face_T.below HT.out (HB.out _ _), Moved.same (HB.out _ _)⟩
    · have hr := look_ok_T hown hk
      rw [hi] at hr
      simp only [Option.isSome_none] at hr
      generalize ofG Cnt.up l key = U at hr
      generalize ofG Cnt.down l key = D at hr
      clear hb hown HB0 hT0 hgood
      go_enter Try.func10, Try.ntmps10
      go_wp2
      go_end0
      exact ⟨rfl, face_T.below HT.out (HB.out _ _), Moved.same (HB.out _ _)⟩
  | some i =>
    obtain ⟨r, hri, hrk⟩ := idx_at hi
    rcases h with ⟨_, rfl, _⟩ | ⟨bm, rfl, hne, hown, rfl⟩
    · cases hi
    have hr := look_ok_T hown hk
    rw [of_idx _ hi hri, of_idx _ hi hri, hi] at hr
    simp only [Option.isSome_some] at hr
    have hS : turnS l key = l.set i ⟨key, r.down, r.up⟩ := by unfold turnS; rw [hi]; simp only [hri]
    have hput : (dat l).put (.int .u32 key) (cntD r.down r.up) = dat (turnS l key) := by
      rw [put_dat, hS, ins_cut _ hgood.1 hi rfl]
    have hun := hgood.2.2.1 r (List.mem_of_getElem? hri)
    have hg2 : Good (turnS l key) := by rw [hS]; exact good_set hgood hri hrk.symm hun.2 hun.1
    have hlen : (turnS l key).length = l.length := by rw [hS, List.length_set]
    have HB0 : Below w.heap.size w (w.alloc (.cells #[.int .i64 r.up, .int .i64 r.down] 62)).drew := ((Below.refl _ w).alloc (Nat.le_refl _) _).drew
    obtain ⟨w', hrun, hown', hgr⟩ := ((hown.alloc (.cells #[.int .i64 r.up, .int .i64 r.down] 62)).drew).update law32 Try.underlying58 (by have := hgood.2.1; unfold maxLen; omega) (key32 hk) (cntR_mk r.down r.up)
    rw [hput] at hown'
    have hown2 := owns_size hown'
    rw [size_dat] at hown2
    have HE := Go.Lib.hid (show TurnF (.pointer (some ⟨b, 0, none⟩)) (fun k => k = b ∨ k = bm) (.tuple #[]) (turnS l key) w (.returned (.tuple #[])) w' from
      ⟨rfl, ⟨hg2, b, some bm, rfl, held_map hlt hb HB0 hgr hne, .inr ⟨bm, rfl, hne, hown2, rfl⟩⟩, moved_map HB0 hgr (.inr rfl)⟩)
    clear hb hown hT0 hgood hput hun hg2 hlen hgr hown' hown2 HB0 hS hri hi hrk
    generalize turnS l key = L at HE ⊢
    go_enter Try.func10, Try.ntmps10
    go_wp2
    go_region
    all_goals (go_wp2; go_end0; exact HE.out)
end Go.Proofs.Ytifaclbafmpiiaa.Tal
