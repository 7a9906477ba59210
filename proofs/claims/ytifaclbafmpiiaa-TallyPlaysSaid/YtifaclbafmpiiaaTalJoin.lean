/- What Join does: of a tally with one key to another one; of none, and of the tally itself. What is told of no tally. -/
import Derived.Test.YtifaclbafmpiiaaTalKeys
import Derived.Test.YtifaclbafmpiiaaTalPlus
import Derived.Test.YtifaclbafmpiiaaTalDrop
import Derived.Test.YtifaclbafmpiiaaTalNone
import Derived.LaidEqlPtr
import Derived.Test.YtifaclbafmpiiaaTalLawAdd
import Derived.Test.YtifaclbafmpiiaaTalLives
namespace Go.Proofs.Ytifaclbafmpiiaa.Tal
open Go.RowKit Mem Go.Maps

theorem of_nil (key : Nat) (w : World) : Calls Try.prog 17 #[.pointer none, .int .u32 key] w (Tells (.tuple #[.int .i64 0, .int .i64 0]) w) := by
  have HB := Go.Lib.hid (Below.refl w.heap.size w)
  go_enter Try.func17, Try.ntmps17
  go_wp2
  go_ret2
  exact ⟨rfl, HB.out⟩
theorem sum_nil (w : World) : Calls Try.prog 18 #[.pointer none] w (Tells (.tuple #[.int .i64 0, .int .i64 0]) w) := by
  have HB := Go.Lib.hid (Below.refl w.heap.size w)
  go_enter Try.func18, Try.ntmps18
  go_wp2
  go_ret2
  exact ⟨rfl, HB.out⟩
theorem turn_nil (key : Nat) (w : World) : Calls Try.prog 10 #[.pointer none, .int .u32 key] w (Tells (.tuple #[]) w) := by
  have HB := Go.Lib.hid (Below.refl w.heap.size w)
  go_enter Try.func10, Try.ntmps10
  go_wp2
  go_end0
  exact ⟨rfl, HB.out⟩
theorem plus_nil (key : Nat) (w : World) : Calls Try.prog 12 #[.pointer none, .int .u32 key, .int .i64 1, .int .i64 1] w (Tells (.int .i64 1) w) := by
  have HB := Go.Lib.hid (Below.refl w.heap.size w)
  go_enter Try.func12, Try.ntmps12
  go_wp2
  go_ret
  exact ⟨rfl, HB.out⟩
theorem keys_nil (w : World) : Calls Try.prog 16 #[.pointer none] w (NoKeys w) := by
  have HB := Go.Lib.hid (Below.refl w.heap.size w)
  go_enter Try.func16, Try.ntmps16
  go_wp2
  go_ret
  exact ⟨_, _, rfl, HB.out⟩
theorem drop_nil (key : Nat) (w : World) : Calls Try.prog 11 #[.pointer none, .int .u32 key] w (Tells (.bool false) w) := by
  have HB := Go.Lib.hid (Below.refl w.heap.size w)
  go_enter Try.func11, Try.ntmps11
  go_wp2
  go_ret
  exact ⟨rfl, HB.out⟩
theorem join_nil (v : Value) (w : World) (l : List Cnt) (F : Nat → Prop) (hT : T w v l F) : Calls Try.prog 14 #[.pointer none, v] w (Tells (.int .i64 1) w) := by
  have HB := Go.Lib.hid (Below.refl w.heap.size w)
  obtain ⟨_, b, m, rfl, _, _⟩ := hT
  go_enter Try.func14, Try.ntmps14
  go_wp2
  go_ret
  exact ⟨rfl, HB.out⟩
theorem join_none (v : Value) (w : World) (l : List Cnt) (F : Nat → Prop) (hT : T w v l F) : Calls Try.prog 14 #[v, .pointer none] w (Tells (.int .i64 1) w) := by
  have HB := Go.Lib.hid (Below.refl w.heap.size w)
  obtain ⟨_, b, m, rfl, _, _⟩ := hT
  go_enter Try.func14, Try.ntmps14
  go_wp2
  go_ret
  exact ⟨rfl, HB.out⟩
theorem infoT : ∃ j, Try.prog.info? 60 = some j ∧ j.size = 1 := by
  have h : (Try.prog.info? 60).map (fun j => j.size) = some 1 := by kernel_rfl
  cases hj : Try.prog.info? 60 with
  | none => rw [hj] at h; cases h
  | some j => rw [hj] at h; exact ⟨j, rfl, by simpa using h⟩
theorem join_self (v : Value) (w : World) (l : List Cnt) (F : Nat → Prop) (hT : T w v l F) : Calls Try.prog 14 #[v, v] w (Tells (.int .i64 1) w) := by
  have HB := Go.Lib.hid (Below.refl w.heap.size w)
  obtain ⟨_, b, m, rfl, _, _⟩ := hT
  obtain ⟨j, hj, _⟩ := infoT
  have hq : ∀ W : World, (binOp .eql 24 (.pointer (some ⟨b, 0, none⟩)) (.pointer (some ⟨b, 0, none⟩))).run Try.prog W = .ok (.bool true) W := fun W => run_eql_ptr_same W ⟨b, 0, none⟩ Try.underlying24 hj
  go_enter Try.func14, Try.ntmps14
  go_wp2
  go_ret
  exact ⟨rfl, HB.out⟩
theorem T.own {W : World} {v : Value} {l : List Cnt} {F : Nat → Prop} (h : T W v l F) (hl : l ≠ []) : ∃ b bm, v = .pointer (some ⟨b, 0, none⟩) ∧ W.heap[b]? = some (.cells #[.map (some bm)] 60) ∧ W.ownsMap Try.prog 23 cntR bm l.length (dat l) ∧ F b := by
  obtain ⟨_, b, m, rfl, hb, h⟩ := h
  rcases h with ⟨_, rfl, _⟩ | ⟨bm, rfl, _, hown, rfl⟩
  · exact absurd rfl hl
  · exact ⟨b, bm, rfl, hb, hown, .inl rfl⟩
theorem T.block {W : World} {v : Value} {l : List Cnt} {F : Nat → Prop} (h : T W v l F) : ∃ b m, v = .pointer (some ⟨b, 0, none⟩) ∧ W.heap[b]? = some (.cells #[.map m] 60) ∧ F b := by
  obtain ⟨_, b, m, rfl, hb, h⟩ := h
  rcases h with ⟨_, _, rfl⟩ | ⟨bm, _, _, _, rfl⟩
  · exact ⟨b, m, rfl, hb, rfl⟩
  · exact ⟨b, m, rfl, hb, .inl rfl⟩
set_option maxRecDepth 100000 in
set_option maxHeartbeats 4000000 in
/-- A tally of one key, joined to another one. -/
theorem join_one (t o : Value) (l : List Cnt) (key u d : Nat) (F G : Nat → Prop) (w : World) (hT : T w t l F) (hO : T w o [⟨key, u, d⟩] G) (hd : ∀ k, F k → ¬ G k) (hu : ofG Cnt.up l key + u ≤ 549755813888) (hdn : ofG Cnt.down l key + d ≤ 549755813888) (hl : l.length < 10000) :
    Calls Try.prog 14 #[t, o] w (AddF T t F (addS l key u d) w) := by
  have hk : key < 4294967296 := hO.1.2.2.2 _ (List.mem_singleton.2 rfl)
  have CK0 := keys_any o _ G w hO (by simp)
  have CI := Go.Lib.hid (fun W (h : T W t l F) => inc_any t l F key u d W hk h hu hdn (fun _ => hl))
  have HT := Go.Lib.hid (fun W (h : Below w.heap.size w W) => face_T.below hT h)
  have HO := Go.Lib.hid (fun W (h : Below w.heap.size w W) => face_T.below hO h)
  obtain ⟨b, m, rfl, hb, hFb⟩ := hT.block
  obtain ⟨bo, bm, rfl, hbo, hown, hGb⟩ := hO.own (by simp)
  have hne : b ≠ bo := fun e => hd b hFb (by rw [e]; exact hGb)
  obtain ⟨j, hj, hjs⟩ := infoT
  have hq : (binOp .eql 24 (.pointer (some ⟨b, 0, none⟩)) (.pointer (some ⟨bo, 0, none⟩))).run Try.prog w = .ok (.bool false) w :=
    run_eql_ptr_other w Try.underlying24 hj (by rw [hjs]; decide) (fun e => hne (by injection e)) hb hbo
  have HLO := Go.Lib.hid (fun W (h : Below w.heap.size w W) => (⟨(h.cell (p := ⟨bo, 0, none⟩) (Array.getElem?_eq_some_iff.1 hbo).1).trans (cell_of hbo), look_T (owns_block hown (h.block bm hown.lt)) hk⟩ : W.cell? ⟨bo, 0, none⟩ = some (.map (some bm)) ∧
    (Instr.lookup 58 (.map (some bm)) (.int .u32 key) false).run Try.prog W = .ok (.agg #[.int .i64 (ofG Cnt.up [⟨key, u, d⟩] key), .int .i64 (ofG Cnt.down [⟨key, u, d⟩] key)]) W))
  have eo : ofG Cnt.up [⟨key, u, d⟩] key = u := by simp [ofG]
  have ed : ofG Cnt.down [⟨key, u, d⟩] key = d := by simp [ofG]
  rw [eo, ed] at HLO
  have CK := Go.Lib.hid (CK0.mono fun e W h => show ∃ A c bk off, e = .returned (.slice A 1 c) ∧ A = some ⟨bk, off, none⟩ ∧ W.cell? ⟨bk, off, none⟩ = some (.int .u32 key) ∧ bk < W.heap.size ∧ Below w.heap.size w W from by
    obtain ⟨v, he, hv, hbw⟩ := h
    obtain ⟨A, c, rfl, _, _, _, hat⟩ := hv.open_
    obtain ⟨bk, off, x, hA, hbk, hx, _, hc⟩ := hat 0 (by simp [keysL])
    obtain rfl : key = x := by simpa [keysL] using hx
    exact ⟨A, c, bk, off, he, hA, hc, hbk, hbw⟩)
  clear CK0 hb hbo hown hT hO hd hu hdn hl hne hj hjs hFb hGb eo ed hk
  generalize addS l key u d = L at CI ⊢
  go_enter Try.func14, Try.ntmps14
  go_wp2_with (go_at_call 16; refine (CK.out).mono ?_; rintro e w1 ⟨A, c, bk, off, rfl, rfl, hc1, hbk, hb1⟩; obtain ⟨z0, z1⟩ := HLO.out w1 hb1; have t1 := Go.Lib.hid (HT.out w1 hb1); have HB1 := Go.Lib.hid hb1; clear hb1)
  refine wp_loop_rounds 2 ?_
  rw [rounds_succ]
  go_wp2_with (go_at_call 24; refine (CI.out _ t1.out).mono ?_; rintro e w2 ⟨F', rfl, h1, h2⟩; have H1 := Go.Lib.hid h1; have H2 := Go.Lib.hid h2; clear h1 h2)
  rw [rounds_succ]
  go_wp2
  go_ret
  exact ⟨F', rfl, H1.out, Moved.behind HB1.out H2.out⟩
theorem none_walk (a : Act) (_ : a.ok) (w : World) : Calls Try.prog 7 #[actV a] w (Tells (.bool true) w) :=
  none_of (fun W v => ∃ l F, T W v l F) (fun _ _ _ ⟨l, F, h⟩ hb => ⟨l, F, face_T.below h hb⟩) a w (Go.Lib.hid of_nil) (Go.Lib.hid sum_nil) (Go.Lib.hid turn_nil)
    (Go.Lib.hid fun W => (new_any W).mono fun _ _ ⟨v, F, he, h1, _, h3⟩ => ⟨v, he, ⟨[], F, h1⟩, h3⟩) (Go.Lib.hid plus_nil) (Go.Lib.hid keys_nil)
    (Go.Lib.hid fun v W ⟨l, F, h⟩ => join_nil v W l F h) (Go.Lib.hid fun v W ⟨l, F, h⟩ => join_none v W l F h) (Go.Lib.hid fun v W ⟨l, F, h⟩ => join_self v W l F h) (Go.Lib.hid drop_nil) (Go.Lib.hid lives_any)
end Go.Proofs.Ytifaclbafmpiiaa.Tal
