/- What the tally's own add does. -/
import Derived.Test.YtifaclbafmpiiaaTalHold
import Derived.Maps.OwnSet
import Derived.WalkSpells
import Derived.Test.YtifaclbafmpiiaaTalMath
namespace Go.Proofs.Ytifaclbafmpiiaa.Tal
open Go.RowKit Mem Go.Maps

theorem step_any (n : Int) (w : World) : Calls Try.prog 23 #[.int .i64 n] w fun e w' => e = .returned (.bool (decide (0 ≤ n) && decide (n ≤ 1073741824))) ∧ w = w' := by
  by_cases h : 0 ≤ n
  · go_enter Try.func23, Try.ntmps23
    go_wp2
    go_ret
    exact ⟨by simp [h], rfl⟩
  · go_enter Try.func23, Try.ntmps23
    go_wp2
    go_ret
    exact ⟨by simp; omega, rfl⟩

set_option maxRecDepth 100000 in
set_option maxHeartbeats 4000000 in
theorem inc_old (bm b n cu cd u d : Nat) (l : List Cnt) (key : Nat) (w : World) (hk : key < 4294967296) (hb : w.heap[b]? = some (.cells #[.map (some bm)] 60)) (hown : w.ownsMap Try.prog 23 cntR bm n (dat l)) (hn : n < maxLen)
    (hi : (idx l key).isSome = true) (hcu : ofG Cnt.up l key = cu) (hcd : ofG Cnt.down l key = cd) (hu : cu + u ≤ 549755813888) (hd : cd + d ≤ 549755813888) :
    Calls Try.prog 24 #[.pointer (some ⟨b, 0, none⟩), .int .u32 key, .agg #[.int .i64 u, .int .i64 d]] w fun e w' => e = .returned (.int .i64 0) ∧ ∃ w1, Below w.heap.size w w1 ∧ w1.grownBy w' (some bm) ∧ w'.ownsMap Try.prog 23 cntR bm (n + 1) ((dat l).put (.int .u32 key) (cntD (cu + u : Nat) (cd + d : Nat))) := by
  have c0 := cell_of hb
  have hlt : b < w.heap.size := (Array.getElem?_eq_some_iff.1 hb).1
  have HB0 : Below w.heap.size w (w.alloc (.cells #[.int .i64 u, .int .i64 d] 62)) := (Below.refl _ w).alloc (Nat.le_refl _) _
  have hr := look_ok_T (hown.alloc (.cells #[.int .i64 u, .int .i64 d] 62)) hk
  rw [hi, hcu, hcd] at hr
  have k0 := (HB0.cell (p := ⟨b, 0, none⟩) hlt).trans c0
  have e0 : IntKind.i64.wrap ((cu : Int) + (u : Int)) = ((cu + u : Nat) : Int) := by rw [wrap_id] <;> omega
  have e1 : IntKind.i64.wrap ((cd : Int) + (d : Int)) = ((cd + d : Nat) : Int) := by rw [wrap_id] <;> omega
  obtain ⟨U, hU⟩ : ∃ U, U = cu + u := ⟨_, rfl⟩
  obtain ⟨D, hD⟩ : ∃ D, D = cd + d := ⟨_, rfl⟩
  rw [← hU] at e0 hu ⊢
  rw [← hD] at e1 hd ⊢
  have d0 : decide ((549755813888 : Int) < (U : Int)) = false := by simp; omega
  have d1 : decide ((549755813888 : Int) < (D : Int)) = false := by simp; omega
  have HB2 : Below w.heap.size w ((w.alloc (.cells #[.int .i64 u, .int .i64 d] 62)).alloc (.cells #[.int .i64 U, .int .i64 D] 62)).drew := (HB0.alloc (by simp) _).drew
  have k1 : ((w.alloc (.cells #[.int .i64 u, .int .i64 d] 62)).alloc (.cells #[.int .i64 U, .int .i64 D] 62)).cell? ⟨b, 0, none⟩ = some (.map (some bm)) := (HB2.cell (p := ⟨b, 0, none⟩) hlt).trans c0
  obtain ⟨w', hrun, hown', hgr⟩ := ((((hown.alloc (.cells #[.int .i64 u, .int .i64 d] 62)).alloc (.cells #[.int .i64 U, .int .i64 D] 62))).drew).update law32 Try.underlying58 hn (key32 hk) (cntR_mk U D)
  have HE := Go.Lib.hid (show ∃ w1, Below w.heap.size w w1 ∧ w1.grownBy w' (some bm) ∧ w'.ownsMap Try.prog 23 cntR bm (n + 1) ((dat l).put (.int .u32 key) (cntD (U : Nat) (D : Nat))) from ⟨_, HB2, hgr, hown'⟩)
  have q0 : ∀ W : World, (binOp .eql 58 (.map (some bm)) (.map none)).run Try.prog W = .ok (.bool false) W := fun W => run_eql_map_nil W _ _ _ _ Try.underlying58
  clear hb hown hi hcu hcd hU hD hu hd HB0 hlt HB2 hown' hgr hn
  go_enter Try.func24, Try.ntmps24
  go_wp2
  go_region
  all_goals (go_wp2; go_ret; exact ⟨rfl, HE.out⟩)

set_option maxRecDepth 100000 in
set_option maxHeartbeats 4000000 in
theorem inc_new (bm b n u d : Nat) (l : List Cnt) (key : Nat) (w : World) (hk : key < 4294967296) (hb : w.heap[b]? = some (.cells #[.map (some bm)] 60)) (hown : w.ownsMap Try.prog 23 cntR bm n (dat l)) (hn : n < maxLen)
    (hi : idx l key = none) (hl : l.length < 10000) (hu : u ≤ 549755813888) (hd : d ≤ 549755813888) :
    Calls Try.prog 24 #[.pointer (some ⟨b, 0, none⟩), .int .u32 key, .agg #[.int .i64 u, .int .i64 d]] w fun e w' => e = .returned (.int .i64 0) ∧ ∃ w1, Below w.heap.size w w1 ∧ w1.grownBy w' (some bm) ∧ w'.ownsMap Try.prog 23 cntR bm (n + 1) ((dat l).put (.int .u32 key) (cntD u d)) := by
  have c0 := cell_of hb
  have hlt : b < w.heap.size := (Array.getElem?_eq_some_iff.1 hb).1
  have HB0 : Below w.heap.size w (w.alloc (.cells #[.int .i64 u, .int .i64 d] 62)) := (Below.refl _ w).alloc (Nat.le_refl _) _
  have hr := look_ok_T (hown.alloc (.cells #[.int .i64 u, .int .i64 d] 62)) hk
  rw [of_none _ hi, of_none _ hi, hi] at hr
  simp only [Option.isSome_none, Int.natCast_zero] at hr
  have k0 := (HB0.cell (p := ⟨b, 0, none⟩) hlt).trans c0
  have e0 : IntKind.i64.wrap (u : Int) = (u : Int) := by rw [wrap_id] <;> omega
  have e1 : IntKind.i64.wrap (d : Int) = (d : Int) := by rw [wrap_id] <;> omega
  have d0 : decide ((549755813888 : Int) < (u : Int)) = false := by simp; omega
  have d1 : decide ((549755813888 : Int) < (d : Int)) = false := by simp; omega
  have d2 : decide ((10000 : Int) ≤ (l.length : Int)) = false := by simp; omega
  have HB2 : Below w.heap.size w ((w.alloc (.cells #[.int .i64 u, .int .i64 d] 62)).alloc (.cells #[.int .i64 u, .int .i64 d] 62)).drew := (HB0.alloc (by simp) _).drew
  have k1 : ((w.alloc (.cells #[.int .i64 u, .int .i64 d] 62)).alloc (.cells #[.int .i64 u, .int .i64 d] 62)).cell? ⟨b, 0, none⟩ = some (.map (some bm)) := (HB2.cell (p := ⟨b, 0, none⟩) hlt).trans c0
  have hlen : ∀ ty, (Builtin.len_ #[58] ty #[.map (some bm)]).run Try.prog ((w.alloc (.cells #[.int .i64 u, .int .i64 d] 62)).alloc (.cells #[.int .i64 u, .int .i64 d] 62)) = .ok (.int .i64 l.length) ((w.alloc (.cells #[.int .i64 u, .int .i64 d] 62)).alloc (.cells #[.int .i64 u, .int .i64 d] 62)) := fun ty => by
    rw [((hown.alloc (.cells #[.int .i64 u, .int .i64 d] 62)).alloc (.cells #[.int .i64 u, .int .i64 d] 62)).len Try.underlying58 ty, size_dat]
  obtain ⟨w', hrun, hown', hgr⟩ := ((((hown.alloc (.cells #[.int .i64 u, .int .i64 d] 62)).alloc (.cells #[.int .i64 u, .int .i64 d] 62))).drew).update law32 Try.underlying58 hn (key32 hk) (cntR_mk u d)
  have HE := Go.Lib.hid (show ∃ w1, Below w.heap.size w w1 ∧ w1.grownBy w' (some bm) ∧ w'.ownsMap Try.prog 23 cntR bm (n + 1) ((dat l).put (.int .u32 key) (cntD u d)) from ⟨_, HB2, hgr, hown'⟩)
  have q0 : ∀ W : World, (binOp .eql 58 (.map (some bm)) (.map none)).run Try.prog W = .ok (.bool false) W := fun W => run_eql_map_nil W _ _ _ _ Try.underlying58
  clear hb hown hi hu hd HB0 hlt HB2 hown' hgr hn hl
  go_enter Try.func24, Try.ntmps24
  go_wp2
  go_region
  all_goals (go_wp2; go_ret; exact ⟨rfl, HE.out⟩)


theorem frozen_of {W : World} {b : Nat} {x : Value} {t : TypeId} (h : W.heap[b]? = some (.cells #[x] t)) : W.frozen? ⟨b, 0, none⟩ = false := by
  simp [World.frozen?, h]
/-- What the first count of a tally gives: a map of its own. -/
def IncNil (b key u d : Nat) (w : World) (e : Ending) (w' : World) : Prop := e = .returned (.int .i64 0) ∧ ∃ bm, w.heap.size ≤ bm ∧ w'.ownsMap Try.prog 23 cntR bm 1 ((dat []).put (.int .u32 key) (cntD u d)) ∧ w'.heap[b]? = some (.cells #[.map (some bm)] 60) ∧ Moved (fun k => k = b) (fun k => k = b ∨ k = bm) w w'
theorem inc_end {b key u d : Nat} {w W3 W4 w' : World} {bm : Nat} (hb : w.heap[b]? = some (.cells #[.map none] 60)) (hB : Below w.heap.size w W3) (h4 : W4 = (W3.setCell ⟨b, 0, none⟩ (.map (some bm))).drew) (hbm : w.heap.size ≤ bm)
    (hg : W4.grownBy w' (some bm)) (hown : w'.ownsMap Try.prog 23 cntR bm (0 + 1) ((dat []).put (.int .u32 key) (cntD u d))) : IncNil b key u d w (.returned (.int .i64 0)) w' := by
  have hlt : b < w.heap.size := (Array.getElem?_eq_some_iff.1 hb).1
  have hs4 : W4.heap.size = W3.heap.size := by rw [h4]; simp [World.drew, World.setCell]
  have e1 : W4.heap[b]? = some (.cells #[.map (some bm)] 60) := by
    rw [h4]
    have := heap_setCell_same W3 b 0 #[.map none] 60 (.map (some bm)) ((hB.block b hlt).trans hb)
    simpa [World.drew] using this
  have e2 : ∀ k, k < w.heap.size → k ≠ b → W4.heap[k]? = w.heap[k]? := fun k hk hn => by
    rw [h4]
    exact (heap_setCell_other W3 ⟨b, 0, none⟩ k _ hn).trans (hB.block k hk)
  have e3 : W4.os = w.os ∧ W4.tape = w.tape ∧ W4.output = w.output := by rw [h4]; exact ⟨hB.os, hB.tape, hB.output⟩
  have hsz := hB.size
  refine ⟨rfl, bm, hbm, hown, (hg.block b (by omega) (fun e => by injection e with e; omega)).trans e1, ⟨hg.os.trans e3.1, hg.tape.trans e3.2.1, hg.output.trans e3.2.2, by have := hg.size; omega, fun k hk hn => (hg.block k (by omega) (fun e => by injection e with e; omega)).trans (e2 k hk hn), fun k hk => ?_⟩⟩
  rcases hk with rfl | rfl
  · exact .inl rfl
  · exact .inr hbm
set_option maxRecDepth 100000 in
set_option maxHeartbeats 4000000 in
theorem inc_nil (b u d : Nat) (key : Nat) (w : World) (hk : key < 4294967296) (hb : w.heap[b]? = some (.cells #[.map none] 60)) (hu : u ≤ 549755813888) (hd : d ≤ 549755813888) :
    Calls Try.prog 24 #[.pointer (some ⟨b, 0, none⟩), .int .u32 key, .agg #[.int .i64 u, .int .i64 d]] w (IncNil b key u d w) := by
  have c0 := cell_of hb
  have hlt : b < w.heap.size := (Array.getElem?_eq_some_iff.1 hb).1
  have HB0 : Below w.heap.size w (w.alloc (.cells #[.int .i64 u, .int .i64 d] 62)) := (Below.refl _ w).alloc (Nat.le_refl _) _
  have hr := look_nil_T (w.alloc (.cells #[.int .i64 u, .int .i64 d] 62)) hk true
  simp only [if_true] at hr
  have k0 := (HB0.cell (p := ⟨b, 0, none⟩) hlt).trans c0
  have e0 : IntKind.i64.wrap (u : Int) = (u : Int) := by rw [wrap_id] <;> omega
  have e1 : IntKind.i64.wrap (d : Int) = (d : Int) := by rw [wrap_id] <;> omega
  have d0 : decide ((549755813888 : Int) < (u : Int)) = false := by simp; omega
  have d1 : decide ((549755813888 : Int) < (d : Int)) = false := by simp; omega
  have HB2 : Below w.heap.size w ((w.alloc (.cells #[.int .i64 u, .int .i64 d] 62)).alloc (.cells #[.int .i64 u, .int .i64 d] 62)) := (HB0.alloc (by simp) _)
  have k1 : ((w.alloc (.cells #[.int .i64 u, .int .i64 d] 62)).alloc (.cells #[.int .i64 u, .int .i64 d] 62)).cell? ⟨b, 0, none⟩ = some (.map none) := (HB2.cell (p := ⟨b, 0, none⟩) hlt).trans c0
  have k2 : (((w.alloc (.cells #[.int .i64 u, .int .i64 d] 62)).alloc (.cells #[.int .i64 u, .int .i64 d] 62)).alloc (.map #[] 0)).cell? ⟨b, 0, none⟩ = some (.map none) := ((HB2.alloc (by simp; omega) _).cell (p := ⟨b, 0, none⟩) hlt).trans c0
  have f2 : (((w.alloc (.cells #[.int .i64 u, .int .i64 d] 62)).alloc (.cells #[.int .i64 u, .int .i64 d] 62)).alloc (.map #[] 0)).frozen? ⟨b, 0, none⟩ = false := ((HB2.alloc (by simp; omega) _).frozen (p := ⟨b, 0, none⟩) hlt).trans (frozen_of hb)
  have hlen : ∀ (ty : TypeId) (W : World), (Builtin.len_ #[58] ty #[.map none]).run Try.prog W = .ok (.int .i64 0) W := fun ty W => Maps.len_nil Try.underlying58 ty
  have q0 : ∀ W : World, (binOp .eql 58 (.map none) (.map none)).run Try.prog W = .ok (.bool true) W := fun W => run_eql_map_nil W _ _ _ _ Try.underlying58
  have hmm := @run_makeMap Try.prog
  have hW2s : ((w.alloc (.cells #[.int .i64 u, .int .i64 d] 62)).alloc (.cells #[.int .i64 u, .int .i64 d] 62)).heap.size = w.heap.size + 1 + 1 := by simp
  have hmade := World.ownsMap_made ((w.alloc (.cells #[.int .i64 u, .int .i64 d] 62)).alloc (.cells #[.int .i64 u, .int .i64 d] 62)) Try.prog 23 cntR
  rw [hW2s] at hmade
  have hset : ((((w.alloc (.cells #[.int .i64 u, .int .i64 d] 62)).alloc (.cells #[.int .i64 u, .int .i64 d] 62)).alloc (.map #[] 0)).setCell ⟨b, 0, none⟩ (.map (some (w.heap.size + 1 + 1)))).ownsMap Try.prog 23 cntR (w.heap.size + 1 + 1) 0 (dat []) := hmade.setCell (by show w.heap.size + 1 + 1 ≠ b; omega) _
  obtain ⟨w', hrun, hown', hgr⟩ := hset.drew.update law32 Try.underlying58 (by unfold maxLen; omega) (key32 hk) (cntR_mk u d)
  have HE := Go.Lib.hid (inc_end hb (HB2.alloc (by rw [hW2s]; omega) (.map #[] 0)) rfl (by omega) hgr hown')
  have k4 : ((((w.alloc (.cells #[.int .i64 u, .int .i64 d] 62)).alloc (.cells #[.int .i64 u, .int .i64 d] 62)).alloc (.map #[] 0)).setCell ⟨b, 0, none⟩ (.map (some (w.heap.size + 1 + 1)))).cell? ⟨b, 0, none⟩ = some (.map (some (w.heap.size + 1 + 1))) := cell_of (by
    have := heap_setCell_same (((w.alloc (.cells #[.int .i64 u, .int .i64 d] 62)).alloc (.cells #[.int .i64 u, .int .i64 d] 62)).alloc (.map #[] 0)) b 0 #[.map none] 60 (.map (some (w.heap.size + 1 + 1))) (((HB2.alloc (by rw [hW2s]; omega) (.map #[] 0)).block b hlt).trans hb)
    simpa using this)
  have j5 : (((w.alloc (.cells #[.int .i64 u, .int .i64 d] 62)).alloc (.cells #[.int .i64 u, .int .i64 d] 62)).alloc (.map #[] 0)).cell? ⟨w.heap.size + 1, 0, none⟩ = some (.int .i64 u) := (((Below.refl _ ((w.alloc (.cells #[.int .i64 u, .int .i64 d] 62)).alloc (.cells #[.int .i64 u, .int .i64 d] 62))).alloc (Nat.le_refl _) (.map #[] 0)).cell (p := ⟨w.heap.size + 1, 0, none⟩) (by rw [hW2s]; show w.heap.size + 1 < w.heap.size + 1 + 1; omega)).trans (show ((w.alloc (.cells #[.int .i64 u, .int .i64 d] 62)).alloc (.cells #[.int .i64 u, .int .i64 d] 62)).cell? ⟨w.heap.size + 1, 0, none⟩ = some (.int .i64 u) by simp)
  have j6 : (((w.alloc (.cells #[.int .i64 u, .int .i64 d] 62)).alloc (.cells #[.int .i64 u, .int .i64 d] 62)).alloc (.map #[] 0)).cell? ⟨w.heap.size + 1, 1, none⟩ = some (.int .i64 d) := (((Below.refl _ ((w.alloc (.cells #[.int .i64 u, .int .i64 d] 62)).alloc (.cells #[.int .i64 u, .int .i64 d] 62))).alloc (Nat.le_refl _) (.map #[] 0)).cell (p := ⟨w.heap.size + 1, 1, none⟩) (by rw [hW2s]; show w.heap.size + 1 < w.heap.size + 1 + 1; omega)).trans (show ((w.alloc (.cells #[.int .i64 u, .int .i64 d] 62)).alloc (.cells #[.int .i64 u, .int .i64 d] 62)).cell? ⟨w.heap.size + 1, 1, none⟩ = some (.int .i64 d) by simp)
  have k5 : ((((w.alloc (.cells #[.int .i64 u, .int .i64 d] 62)).alloc (.cells #[.int .i64 u, .int .i64 d] 62)).alloc (.map #[] 0)).setCell ⟨b, 0, none⟩ (.map (some (w.heap.size + 1 + 1)))).cell? ⟨w.heap.size + 1, 0, none⟩ = some (.int .i64 u) := (World.cell?_of_block (a := ⟨w.heap.size + 1, 0, none⟩) (heap_setCell_other (((w.alloc (.cells #[.int .i64 u, .int .i64 d] 62)).alloc (.cells #[.int .i64 u, .int .i64 d] 62)).alloc (.map #[] 0)) ⟨b, 0, none⟩ (w.heap.size + 1) _ (by show w.heap.size + 1 ≠ b; omega))).trans j5
  have k6 : ((((w.alloc (.cells #[.int .i64 u, .int .i64 d] 62)).alloc (.cells #[.int .i64 u, .int .i64 d] 62)).alloc (.map #[] 0)).setCell ⟨b, 0, none⟩ (.map (some (w.heap.size + 1 + 1)))).cell? ⟨w.heap.size + 1, 1, none⟩ = some (.int .i64 d) := (World.cell?_of_block (a := ⟨w.heap.size + 1, 1, none⟩) (heap_setCell_other (((w.alloc (.cells #[.int .i64 u, .int .i64 d] 62)).alloc (.cells #[.int .i64 u, .int .i64 d] 62)).alloc (.map #[] 0)) ⟨b, 0, none⟩ (w.heap.size + 1) _ (by show w.heap.size + 1 ≠ b; omega))).trans j6
  clear j5 j6
  clear hb hu hd HB0 HB2 hmade hset hown' hgr hW2s hlt
  go_enter Try.func24, Try.ntmps24
  go_wp2
  go_region
  all_goals (go_wp2; go_ret; exact HE.out)
end Go.Proofs.Ytifaclbafmpiiaa.Tal
