/- comm's ParseAll. -/
import Derived.Test.YtdgfnnjcpoklfaaDoorCommEach
namespace Go.Proofs.YtdgfnnjcpoklfaaDoor.Com
open Go.RowKit Go.Shelf Mem Rise Pfx Dec Nums

attribute [local go_sem] Oper.semAt_some

/-- What ParseAll tells. -/
def ParsedAll (r : Option (List Nat)) (w : World) (e : Ending) (w' : World) : Prop :=
  (match r with
  | some l => ∃ A c, e = .returned (.tuple #[.slice A l.length c, .int .i64 0]) ∧ U32s w' (.slice A l.length c) l
  | none => e = .returned (.tuple #[.slice none 0 0, .int .i64 2])) ∧ Below w.heap.size w w'

/-- What has been read so far. -/
def okList (pre : List (Option Nat)) : List Nat := pre.map codeOf
def allOk (pre : List (Option Nat)) : Prop := ∀ x ∈ pre, x.isSome = true
theorem okList_snoc (pre : List (Option Nat)) (x : Option Nat) : okList (pre ++ [x]) = okList pre ++ [codeOf x] := by simp [okList]
theorem okList_len (pre : List (Option Nat)) : (okList pre).length = pre.length := by simp [okList]
theorem allOk_snoc {pre : List (Option Nat)} {x : Nat} (h : allOk pre) : allOk (pre ++ [some x]) := fun y hy => by
  rcases List.mem_append.1 hy with hy | hy
  · exact h y hy
  · rw [List.mem_singleton.1 hy]; rfl
theorem mapM_all : ∀ (ws : List (List UInt8)), allOk (ws.map cread) → ws.mapM cread = some (okList (ws.map cread))
  | [], _ => rfl
  | w :: ws, h => by
    have h1 := h (cread w) (by simp)
    obtain ⟨c, hc⟩ := Option.isSome_iff_exists.1 h1
    have ih := mapM_all ws fun x hx => h x (List.mem_cons_of_mem _ hx)
    rw [List.mapM_cons, hc, ih]
    simp [okList, hc, codeOf]
theorem mapM_bad : ∀ (ws : List (List UInt8)), none ∈ ws.map cread → ws.mapM cread = none
  | [], h => by simp at h
  | w :: ws, h => by
    rw [List.mapM_cons]
    cases hc : cread w with
    | none => rfl
    | some c =>
      have h2 : none ∈ ws.map cread := by
        rw [List.map_cons, hc] at h
        simpa using h
      rw [mapM_bad ws h2]; rfl
theorem creads_all {s : List UInt8} (h : allOk ((splitS s).map cread)) : creads s = some (okList ((splitS s).map cread)) := mapM_all _ h
theorem creads_bad {s : List UInt8} {pre : List (Option Nat)} (h : pre <+: (splitS s).map cread) (hn : none ∈ pre) : creads s = none := mapM_bad _ (h.subset hn)

theorem readAll_none {s : List UInt8} (hs : s ≠ [45]) (h : creads s = none) : readAll s = none := by unfold readAll; rw [if_neg hs, h]
theorem readAll_rise {s : List UInt8} (hs : s ≠ [45]) {l : List Nat} (h : creads s = some l) (hr : rising l) : readAll s = some l := by unfold readAll; rw [if_neg hs, h]; simp [hr]
theorem readAll_fall {s : List UInt8} (hs : s ≠ [45]) {l : List Nat} (h : creads s = some l) (hr : ¬ rising l) : readAll s = none := by unfold readAll; rw [if_neg hs, h]; simp [hr]

theorem parseAll_bar (w : World) : Calls Tryd.prog 30 #[.string ⟨#[45]⟩] w (ParsedAll (some []) w) := by
  have hb : Below w.heap.size w ((w.alloc (.cells #[.slice none 0 0] 22)).alloc (.cells #[.int .i64 0] 42)) :=
    ((Below.refl _ w).alloc (Nat.le_refl _) _).alloc (by simp) _
  go_enter Tryd.func30, Tryd.ntmps30
  go_wp2
  exact bodyPost_ret (v := .tuple #[.slice none 0 0, .int .i64 0]) (by simp [results, Tryd.results30, go_sem]) rfl ⟨⟨none, 0, rfl, U32s.nil _⟩, hb⟩

set_option maxRecDepth 100000 in
set_option maxHeartbeats 4000000 in
theorem parseAll_list (s : List UInt8) (hs : s ≠ [45]) (hlen : s.length ≤ 1000000) (w : World) (hT : Powers w) (hv : ErrVars w) :
    Calls Tryd.prog 30 #[.string (strOf s)] w (ParsedAll (readAll s) w) := by
  obtain ⟨i0, E⟩ := elem32
  have ht : ((strOf s).toList == [45]) = false := by rw [toList_strOf]; simpa using hs
  have hcount : ((splitS s).map cread).length ≤ 1000001 := by
    have : ∀ l : List UInt8, (splitS l).length ≤ l.length + 1 := by
      intro l
      induction l with
      | nil => simp [splitS]
      | cons c l ih =>
        unfold splitS
        split
        · simp; omega
        · have hne := splitS_ne l
          cases hsl : splitS l with
          | nil => exact absurd hsl hne
          | cons a m => rw [hsl] at ih; simp at ih ⊢; omega
    have := this s
    simp; omega
  have HS := Go.Lib.hid hs
  clear hs
  refine (callsIn_wide (n := 5)).1 ?_
  refine callsIn_of_wp_marks Tryd.func30 rfl trivial ?_ rfl
  simp only [Tryd.ntmps30, List.size_toArray, List.length_cons, List.length_nil, Nat.reduceAdd, Nat.reduceSub, Array.replicate_succ, Array.replicate_zero, List.push_toArray, List.append_toArray, List.nil_append, List.cons_append]
  gi_wp2_with (refine ⟨trivial, ?_⟩; gi_at_call 44; refine (callsIn_wide.2 (each_any s _)).mono ?_; rintro e w' ⟨rfl, rfl⟩)
  have bR := Boxed.new w 22 (.slice none 0 0)
  have bE := Boxed.new (w.alloc (.cells #[.slice none 0 0] 22)) 42 (.int .i64 0)
  have bL := Boxed.new ((w.alloc (.cells #[.slice none 0 0] 22)).alloc (.cells #[.int .i64 0] 42)) 22 (.slice none 0 0)
  have bS := Boxed.new (((w.alloc (.cells #[.slice none 0 0] 22)).alloc (.cells #[.int .i64 0] 42)).alloc (.cells #[.slice none 0 0] 22)) 9 (.string (strOf s))
  simp only [World.size_alloc] at bE bL bS
  have hB0 : Below w.heap.size w ((((w.alloc (.cells #[.slice none 0 0] 22)).alloc (.cells #[.int .i64 0] 42)).alloc (.cells #[.slice none 0 0] 22)).alloc (.cells #[.string (strOf s)] 9)) :=
    ((((Below.refl _ w).alloc (Nat.le_refl _) _).alloc (by simp) _).alloc (by simp; omega) _).alloc (by simp; omega) _
  refine wpIn_rangeFunc_ownG rfl (by omega) (gf := 57) (lb := #[.pointer (some ⟨w.heap.size + 1 + 1 + 1, 0, none⟩)]) rfl trivial (enters_of Tryd.func57 (by kernel_rfl) rfl)
    (each1_stops _ s hlen w hT hv (w.heap.size + 1 + 1 + 1) _ hB0 (by simp) (by omega) bS.cell) belowK_t (belowK_b (by simp; omega)) (Below.refl _ _) (fun _ => rfl)
    (fun pre W => ((∃ v, Boxed W (w.heap.size + 1 + 1) 22 v ∧ W.ownsRow w.heap.size 23 1 v (okList pre).length ((okList pre).map fun n : Nat => Value.int .u32 n) ∧ allOk pre) ∧ (Boxed W w.heap.size 22 (.slice none 0 0) ∧ Boxed W (w.heap.size + 1) 42 (.int .i64 0))) ∧ Below w.heap.size w W)
    (fun c pre W => ((c = .ret ∧ none ∈ pre) ∧ (Boxed W w.heap.size 22 (.slice none 0 0) ∧ Boxed W (w.heap.size + 1) 42 (.int .i64 2))) ∧ Below w.heap.size w W)
    (OwnFrom.and (OwnFrom.and (Own.from (holdsRow_own w.heap.size (w.heap.size + 1 + 1) 22 23 1 (fun pre => (okList pre).length) (fun pre => (okList pre).map fun n : Nat => Value.int .u32 n) (fun pre _ => allOk pre)) _) (OwnFrom.and (Own.from (boxed_own _ _ fun _ => .slice none 0 0) _) (Own.from (boxed_own _ _ fun _ => .int .i64 0) _))) (ownFrom_below (Nat.le_refl _) (by simp; omega)))
    (fun c => OwnFrom.and (OwnFrom.and (ownFrom_pure _ _) (OwnFrom.and (Own.from (boxed_own _ _ fun _ => .slice none 0 0) _) (Own.from (boxed_own _ _ fun _ => .int .i64 2) _))) (ownFrom_below (Nat.le_refl _) (by simp; omega)))
    ⟨⟨⟨_, bL.alloc _, World.ownsRow_nil _ _ _ _, by simp [allOk]⟩, ((bR.alloc _).alloc _).alloc _, (bE.alloc _).alloc _⟩, hB0⟩
    (fun x => { tmps := #[.string (strOf s), undef, .pointer (some ⟨w.heap.size, 0, none⟩), .pointer (some ⟨w.heap.size + 1, 0, none⟩), .pointer (some ⟨w.heap.size + 1 + 1, 0, none⟩), .int .u32 (codeOf x), .int .i64 (errOf x), .string (strOf s), .bool false, .string (strOf s), .func (.func 57) #[] #[.pointer (some ⟨w.heap.size + 1 + 1 + 1, 0, none⟩)], .int .u32 (codeOf x), .int .i64 (errOf x), undef, undef, undef, undef, undef, undef, undef, undef, undef, undef, undef], defers := [] }) ?assign ?body ?done ?stop
  case assign =>
    intro l x W K hK
    gi_wp2
    exact hK
  case body =>
    rintro l pre x W ⟨⟨⟨v, hv', hrow, hall⟩, hbR, hbE⟩, hB⟩ hlt
    have c1 := hv'.cell
    have c2 := hbR.cell
    have c3 := hbE.cell
    have f2 := hbR.frozen
    have f3 := hbE.frozen
    cases x with
    | none =>
      have e2 : errOf none = 2 := rfl
      clear hT hv
      gi_wp2
      exact ⟨((KeepsOthers.setCell _ _ _).trans (KeepsOthers.setCell _ _ _)).from _, ⟨⟨rfl, by simp⟩, (hbR.set _).other (by omega) _, (hbE.other (by omega) _).set _⟩, (hB.setCell (p := ⟨w.heap.size, 0, none⟩) (Nat.le_refl _) _).setCell (p := ⟨w.heap.size + 1, 0, none⟩) (by simp) _⟩
    | some c =>
      have e2 : errOf (some c) = 0 := rfl
      have e3 : codeOf (some c) = c := rfl
      have hok := okList_snoc pre (some c)
      rw [e3] at hok
      have HO := Go.Lib.hid hok
      have hpl : (okList pre).length ≤ 1000001 := by rw [okList_len]; omega
      clear hT hv hok
      gi_wp2_with (gi_at_builtin; refine wpListIn_append_own _ rfl _ _ 22 rfl w.heap.size 23 i0 (.int .u32 0) 1 4 E.ht E.hi E.hz E.hsize E.hby rfl (by decide) _ _ _ rfl (hrow.alloc _) ⟨W.heap.size, 0, none⟩ 1 1 [.int .u32 c] rfl rfl (cell_one_new _ _ _) (by simp [Value.oneCell']) (by unfold maxLen; omega) (by omega) (by have := hB.size; simp; omega) ?_; intro v' w1 hown' hgrow _; obtain ⟨g', cap', rfl⟩ := ownsRow_succ hown'; obtain ⟨hv1, hv2, hr2, hk2, hb2⟩ := hv'.appended (by decide) hrow hB.size (by omega) hown' hgrow; have hc1 := hv1.cell; have hf1 := hv1.frozen)
      exact ⟨hk2.from _, hb2, ⟨⟨_, hv2, by rw [HO.out]; simpa [okList_len] using hr2, allOk_snoc hall⟩, ((hbR.alloc _).kept hgrow (hbR.not_row (by decide) hrow)).other (by omega) _, ((hbE.alloc _).kept hgrow (hbE.not_row (by decide) hrow)).other (by omega) _⟩, hB.trans hb2⟩
  case done =>
    rintro D ys W hD rfl ⟨⟨⟨v, hv', hrow, hall⟩, hbR, hbE⟩, hB⟩ hK
    have hL := creads_all hall
    have hbd := (creads_sound hL).2.1
    have HU := U32s.of_own hrow hbd
    have HL := Go.Lib.hid hL
    have HBD := Go.Lib.hid hbd
    obtain ⟨A, c, rfl, hlc, hc, -, -⟩ := HU.open_
    have CI := Go.Lib.hid (is_any _ _ W HU)
    clear hL hbd hall hcount HU hT hv
    have c1 := hv'.cell
    have hDl := (Array.getElem?_eq_some_iff.1 hK).1
    generalize okList ((splitS s).map cread) = L at hv' hrow HL HBD hlc CI c1 ⊢
    cases hr : decide (rising L)
    · rw [hr] at CI
      have HN := Go.Lib.hid (readAll_fall HS.out HL.out (of_decide_eq_false hr))
      clear hr
      gi_wp2_with (refine ⟨trivial, ?_⟩; gi_at_call 12; refine (callsIn_wide.2 CI.out).mono ?_; rintro e w1 ⟨rfl, hb1⟩; have bR1 : Boxed w1 _ _ _ := (hb1.block _ hbR.lt).trans hbR; have bE1 : Boxed w1 _ _ _ := (hb1.block _ hbE.lt).trans hbE; have c2 := bR1.cell; have c3 := bE1.cell; have f2 := bR1.frozen; have f3 := bE1.frozen; have hK1 := (hb1.block D hDl).trans hK)
      have hK' := ((KeepsOthers.setCell w1 ⟨w.heap.size, 0, none⟩ (.slice none 0 0)).trans (KeepsOthers.setCell _ ⟨w.heap.size + 1, 0, none⟩ (.int .i64 2))).same D _ hK1 rfl
      have b1 := (bR1.set (.slice none 0 0)).other (B' := w.heap.size + 1) (by omega) (.int .i64 2)
      have b2 := (bE1.other (B' := w.heap.size) (by omega) (.slice none 0 0)).set (.int .i64 2)
      have d1 := cell_kept b1.cell (grownBy_putObj' _ D (.deferred none)) (fun r e => by cases e; exact ⟨_, hK', rfl⟩)
      have d2 := cell_kept b2.cell (grownBy_putObj' _ D (.deferred none)) (fun r e => by cases e; exact ⟨_, hK', rfl⟩)
      have hend := (((hB.trans (hb1.mono hB.size)).setCell (p := ⟨w.heap.size, 0, none⟩) (Nat.le_refl _) (.slice none 0 0)).setCell (p := ⟨w.heap.size + 1, 0, none⟩) (by simp) (.int .i64 2)).trans (belowK_b (w := w) (Nat.le_refl _) _ D _ (.deferred none) (by simp at hD; omega) hK' rfl rfl)
      refine ⟨by simp, .inl ⟨_, _, rfl, run_takeDeferred hK', ?_⟩⟩
      refine ⟨.tuple #[(.slice none 0 0), .int .i64 2], by simp [results, Tryd.results30, go_sem, d1, d2], ?_⟩
      rw [HN.out]
      exact ⟨rfl, hend⟩
    · rw [hr] at CI
      have HN := Go.Lib.hid (readAll_rise HS.out HL.out (of_decide_eq_true hr))
      clear hr
      gi_wp2_with (refine ⟨trivial, ?_⟩; gi_at_call 12; refine (callsIn_wide.2 CI.out).mono ?_; rintro e w1 ⟨rfl, hb1⟩; have bR1 : Boxed w1 _ _ _ := (hb1.block _ hbR.lt).trans hbR; have bE1 : Boxed w1 _ _ _ := (hb1.block _ hbE.lt).trans hbE; have bL1 : Boxed w1 _ _ _ := (hb1.block _ hv'.lt).trans hv'; have c2 := bR1.cell; have c3 := bE1.cell; have c4 := bL1.cell; have f2 := bR1.frozen; have f3 := bE1.frozen; have hK1 := (hb1.block D hDl).trans hK)
      have hK' := ((KeepsOthers.setCell w1 ⟨w.heap.size, 0, none⟩ (.slice A L.length c)).trans (KeepsOthers.setCell _ ⟨w.heap.size + 1, 0, none⟩ (.int .i64 0))).same D _ hK1 rfl
      have b1 := (bR1.set (.slice A L.length c)).other (B' := w.heap.size + 1) (by omega) (.int .i64 0)
      have b2 := (bE1.other (B' := w.heap.size) (by omega) (.slice A L.length c)).set (.int .i64 0)
      have d1 := cell_kept b1.cell (grownBy_putObj' _ D (.deferred none)) (fun r e => by cases e; exact ⟨_, hK', rfl⟩)
      have d2 := cell_kept b2.cell (grownBy_putObj' _ D (.deferred none)) (fun r e => by cases e; exact ⟨_, hK', rfl⟩)
      have hend := (((hB.trans (hb1.mono hB.size)).setCell (p := ⟨w.heap.size, 0, none⟩) (Nat.le_refl _) (.slice A L.length c)).setCell (p := ⟨w.heap.size + 1, 0, none⟩) (by simp) (.int .i64 0)).trans (belowK_b (w := w) (Nat.le_refl _) _ D _ (.deferred none) (by simp at hD; omega) hK' rfl rfl)
      have hr1 := own_keep hrow hb1
      have hr2 := hr1.kept (grownBy_setCell' w1 w.heap.size (.slice A L.length c)) (.inr (bR1.not_row (by decide) hr1).symm)
      have hr3 := hr2.kept (grownBy_setCell' _ (w.heap.size + 1) (.int .i64 0)) (.inr ((bE1.other (B' := w.heap.size) (by omega) (.slice A L.length c)).not_row (by decide) hr2).symm)
      have hr4 := ownsRow_putObj hr3 (.deferred none) hK' rfl
      refine ⟨by simp, .inl ⟨_, _, rfl, run_takeDeferred hK', ?_⟩⟩
      refine ⟨.tuple #[(.slice A L.length c), .int .i64 0], by simp [results, Tryd.results30, go_sem, d1, d2], ?_⟩
      rw [HN.out]
      exact ⟨⟨A, c, rfl, U32s.of_own hr4 HBD.out⟩, hend⟩
  case stop =>
    rintro D c pre W hD hpre ⟨⟨⟨rfl, hin⟩, hbR, hbE⟩, hB⟩ hK
    have HN := Go.Lib.hid (readAll_none HS.out (creads_bad hpre hin))
    gi_wp2
    have c1 := hbR.cell
    have d1 := cell_kept hbR.cell (grownBy_putObj' _ D (.deferred none)) (fun r e => by cases e; exact ⟨_, hK, rfl⟩)
    have d2 := cell_kept hbE.cell (grownBy_putObj' _ D (.deferred none)) (fun r e => by cases e; exact ⟨_, hK, rfl⟩)
    have hend := hB.trans (belowK_b (w := w) (Nat.le_refl _) _ D _ (.deferred none) (by simp at hD; omega) hK rfl rfl)
    refine ⟨by simp, .inl ⟨_, _, rfl, run_takeDeferred hK, ?_⟩⟩
    refine ⟨.tuple #[.slice none 0 0, .int .i64 2], by simp [results, Tryd.results30, go_sem, d1, d2], ?_⟩
    rw [HN.out]
    exact ⟨rfl, hend⟩

/-- ParseAll. -/
theorem parseAll_any (s : List UInt8) (hlen : s.length ≤ 1000000) (w : World) (hT : Powers w) (hv : ErrVars w) :
    Calls Tryd.prog 30 #[.string (strOf s)] w (ParsedAll (readAll s) w) := by
  by_cases h : s = [45]
  · rw [h]; exact parseAll_bar w
  · exact parseAll_list s h hlen w hT hv
end Go.Proofs.YtdgfnnjcpoklfaaDoor.Com
