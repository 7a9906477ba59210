/- 'slices.Repeat' of one number, at most 255 times. path's Seq and Prepend: the own form of one sequence, and of a path with a number ahead. path's Join: a sequence, and the numbers of a set behind it. -/
import Derived.Test.YtcdbeljmniaofaaGreatDoorSetRef3
import Derived.Test.YtcdbeljmniaofaaGreatDoorShelf
import Derived.WalkSpells
import Derived.BigQuiet
import Derived.Deep.RegionHeld3
import Derived.Deep.DrawnRows
import Derived.Laws.CopyOwn
import Derived.Laws.MakeOwn
import Derived.Test.YtcdbeljmniaofaaGreatDoorPathOwn
import Derived.Test.YtcdbeljmniaofaaGreatDoorPathLaw

/- 'slices.Repeat' of one number, at most 255 times. -/
namespace Go.Proofs.YtcdbeljmniaofaaGreatDoor.Seg
open Go.RowKit Mem Rise

theorem made_u32 (k : Nat) : madeCells #[Value.int .u32 0] k = (List.replicate k (Value.int .u32 0)).toArray := by
  apply Array.ext'
  rw [List.toList_toArray]
  refine List.ext_getElem (by simp [madeCells]) fun j h1 h2 => ?_
  simp [madeCells, Nat.mod_one]
/-- A row that is filled up to m. -/
def filled (k m : Nat) (n : Nat) : List Value := List.replicate m (Value.int .u32 n) ++ List.replicate (k - m) (Value.int .u32 0)
theorem filled_len {k m n : Nat} (h : m ≤ k) : (filled k m n).length = k := by simp [filled]; omega
theorem filled_more {k m n : Nat} (j : Nat) (hj : m + j ≤ k) : splice (filled k m n) m (List.replicate j (Value.int .u32 n)) = filled k (m + j) n := by
  unfold splice filled
  rw [List.length_replicate, List.take_left' (by simp), List.drop_append, List.length_replicate, List.drop_of_length_le (by simp), List.nil_append, List.drop_replicate, ← List.append_assoc, List.replicate_append_replicate]
  congr 2
  omega
theorem filled_cell {k m n : Nat} {w : World} {g : Nat} {t : TypeId} (h : w.heap[g]? = some (.cells (filled k m n).toArray t (0, 0))) (j : Nat) (hj : j < m) : w.cell? ⟨g, j, none⟩ = some (.int .u32 n) := by
  have h3 : (filled k m n)[j]? = some (.int .u32 n) := by
    unfold filled
    rw [List.getElem?_append_left (by simpa using hj), List.getElem?_replicate, if_pos hj]
  simp [World.cell?, h, h3]

set_option maxRecDepth 100000 in
set_option maxHeartbeats 4000000 in
theorem repeat_any (v : Value) (n k : Nat) (w : World) (hv : U32s w v [n]) (hk : k ≤ 255) :
    Calls Tryz.prog 13 #[v, .int .i64 k] w (Tells32 (List.replicate k n) w) := by
  obtain ⟨i0, E0⟩ := Nums.elem32
  obtain ⟨A, c, rfl, hlc, hc, -, hat⟩ := hv.open_
  obtain ⟨b, off, x, rfl, hb, hx, hx2, hcell⟩ := hat 0 (by simp)
  obtain rfl : n = x := by simpa using hx
  have e1 : 1 * k / 18446744073709551616 = 0 := by omega
  have e2 : 1 * k % 18446744073709551616 = k := by omega
  have C0 := (fun (W : World) => Tryz.bits_Mul 1 k (by decide) (by omega) W)
  rw [e1, e2] at C0
  have CM := Go.Lib.hid (fun (W : World) => (C0 W).mono (R' := fun e w' => e = .returned (.tuple #[.int .u64 ((0 : Nat) : Int), .int .u64 (k : Int)]) ∧ W = w') fun _ _ h => ⟨h.1, h.2.symm⟩)
  clear C0
  have hmk : ∀ W : World, (Instr.makeSlice 24 (.int .i64 (k : Int)) (.int .i64 (k : Int))).run Tryz.prog W = .ok (.slice (some ⟨W.heap.size, 0, none⟩) k k) (W.alloc (.cells (List.replicate k (Value.int .u32 0)).toArray 29)) := fun W => by
    have h := run_make (P := Tryz.prog) (w := W) 24 29 i0 (.int .u32 0) E0.ht E0.hi E0.hz .i64 .i64 (k : Int) (k : Int) (by omega) (by omega) (by rw [E0.hby]; omega) (by omega)
    simp only [Int.toNat_natCast, E0.hsize, Nat.mul_one, Value.cells] at h
    rw [made_u32] at h
    exact h
  clear hat hx e1 e2
  obtain ⟨m0, hm0, hm1, hm2⟩ : ∃ m0 : Nat, m0 = Nat.min 1 k ∧ m0 ≤ k ∧ (k = 0 ∨ 0 < m0) := ⟨_, rfl, Nat.min_le_right 1 k, by
    have : Nat.min 1 k = min 1 k := rfl
    omega⟩
  have hm3 : m0 ≤ 1 := hm0 ▸ Nat.min_le_left 1 k
  have HM0 := Go.Lib.hid hm0
  clear hm0
  have hcell2 := ((Below.refl w.heap.size w).alloc (Nat.le_refl _) (.cells (Array.replicate k (Value.int .u32 0)) 29)).cell (p := ⟨b, off, none⟩) hb |>.trans hcell
  have hsz : (Tryz.prog.info? 29).map (·.size) = some 1 := by rw [E0.hi, Option.map_some, E0.hsize]
  have hg0 : (w.alloc (.cells (Array.replicate k (Value.int .u32 0)) 29)).heap[w.heap.size]? = some (.cells (filled k 0 n).toArray 29 (0, 0)) :=
    (heap_alloc_new _ _).trans (by simp [filled])
  have HG0 := Go.Lib.hid hg0
  have HC2 := Go.Lib.hid hcell2
  have HSZ := Go.Lib.hid hsz
  have HH2 := Go.Lib.hid hx2
  clear hg0 hcell2 hcell hsz hv hx2
  go_enter Tryz.func13, Tryz.ntmps13
  go_wp2_with (first
    | (go_at_call 25; refine (CM.out _).mono ?_; rintro e w' ⟨rfl, rfl⟩)
    | (refine wpList_copy_splice rfl (.tmp 31) (.tmp 32) 24 24 rfl 29 Tryz.underlying24 HSZ.out (some ⟨w.heap.size, 0, none⟩) (some ⟨b, off, none⟩) k k 1 c rfl rfl w.heap.size 0 (filled k 0 n) 29 HG0.out (List.replicate m0 (.int .u32 (n : Int))) ?_ ?_ ?_ ?_ w.heap.size w ?_ (Nat.le_refl _) ?_
       · rw [List.length_replicate]; exact HM0.out
       · intro h0
         refine ⟨rfl, _, rfl, fun j u hj => ?_⟩
         rw [List.getElem?_replicate] at hj
         split at hj
         · injection hj with hj
           subst hj
           have hj0 : j = 0 := by omega
           subst hj0
           exact HC2.out
         · cases hj
       · rw [List.length_replicate, filled_len (Nat.zero_le _)]; omega
       · intro u hu
         rw [(List.mem_replicate.1 hu).2]; rfl
       · exact (Below.refl _ _).alloc (Nat.le_refl _) _
       intro w2 hg2 hb2
       rw [filled_more m0 (by omega), Nat.zero_add] at hg2
       rw [List.length_replicate]))
  go_loopw [8] (fun v8 wr => ∃ m : Nat, m ≤ k ∧ (k = 0 ∨ 0 < m) ∧ v8 = .int .i64 m ∧ Hid (wr.heap[w.heap.size]? = some (.cells (filled k m n).toArray 29 (0, 0))) ∧ Hid (Below w.heap.size w wr)) (fun v8 _ => k - (intOf v8).toNat)
  case atStart => exact ⟨m0, hm1, hm2, rfl, hg2, Go.Lib.hid hb2⟩
  case round =>
    obtain ⟨m, hmk', hm0', rfl, hg, hb⟩ := hrel
    by_cases hlt : m < k
    · obtain ⟨j, hj⟩ : ∃ j, j = Nat.min m (k - m) := ⟨_, rfl⟩
      have hj1 : j ≤ m := hj ▸ Nat.min_le_left _ _
      have hj2 : j ≤ k - m := hj ▸ Nat.min_le_right _ _
      have hj3 : 0 < j := by
        have : Nat.min m (k - m) = min m (k - m) := rfl
        omega
      have HJ := Go.Lib.hid hj
      clear hj
      have z0 : (0 : Int) ≤ (m : Int) := by omega
      have z1 : (m : Int) ≤ (k : Int) := by omega
      have z2 : (m : Int) < (k : Int) := by omega
      have z3 : ¬ k = m := by omega
      have hwr : IntKind.i64.wrap ((m : Int) + (j : Int)) = ((m + j : Nat) : Int) := by rw [IntKind.wrap_i64]; omega
      go_wp2
      go_region_held3 (fun _ => True) (trivial) (first
        | (refine step_copy_splice rfl (.tmp 41) (.tmp 44) 24 24 rfl 29 Tryz.underlying24 HSZ.out (some ⟨w.heap.size, m, none⟩) (some ⟨w.heap.size, 0, none⟩) (k - m) (k - m) m k ?_ ?_ w.heap.size m (filled k m n) 29 hg.out (List.replicate j (.int .u32 (n : Int))) ?_ ?_ ?_ ?_ w.heap.size w hb.out.drew (Nat.le_refl _) ?_
           · first | rfl | simp [z3]
           · rfl
           · rw [List.length_replicate]; exact HJ.out
           · intro _
             refine ⟨rfl, _, rfl, fun i u hi => ?_⟩
             rw [List.getElem?_replicate] at hi
             split at hi
             · injection hi with hi
               subst hi
               rw [show (⟨w.heap.size, 0, none⟩ : Addr).add i = ⟨w.heap.size, i, none⟩ by by_cases h : i = 0 <;> simp [Addr.add, h]]
               exact filled_cell (show wr.drew.heap[w.heap.size]? = _ from hg.out) i (by omega)
             · cases hi
           · rw [List.length_replicate, filled_len hmk']; omega
           · intro u hu
             rw [(List.mem_replicate.1 hu).2]; rfl
           intro w3 hg3 hb3
           rw [filled_more j (by omega)] at hg3
           rw [List.length_replicate]))
      all_goals go_wp2
      all_goals go_roundw
      case rel => exact ⟨m + j, by omega, by omega, rfl, hg3, Go.Lib.hid hb3⟩
      case measure => simp [intOf]; omega
    · obtain rfl : m = k := by omega
      go_wp2
      go_ret
      have hsz : w.heap.size < wr.heap.size := (Array.getElem?_eq_some_iff.1 hg.out).1
      refine ⟨.slice (some ⟨w.heap.size, 0, none⟩) m m, rfl, ⟨⟨by simp, some ⟨w.heap.size, 0, none⟩, m, by rw [List.length_replicate], by simp, by unfold maxLen; omega, fun _ => ⟨w.heap.size, 0, rfl, hsz, fun i x hx => ?_⟩⟩, fun y hy => by rw [(List.mem_replicate.1 hy).2]; exact HH2.out⟩, hb.out⟩
      rw [List.map_replicate, List.getElem?_replicate] at hx
      split at hx
      · injection hx with hx
        subst hx
        rw [Nat.zero_add]
        exact filled_cell hg.out i (by omega)
      · cases hx
end Go.Proofs.YtcdbeljmniaofaaGreatDoor.Seg


/- path's Seq and Prepend: the own form of one sequence, and of a path with a number ahead. -/
namespace Go.Proofs.YtcdbeljmniaofaaGreatDoor.Seg
open Go.RowKit Mem Rise Segm

theorem seq_any (v : Value) (a : List Nat) (w : World) (hv : U32s w v a) (hlen : a.length ≤ 600) : Calls Tryz.prog 9 #[v] w (GivesSegsF 36 (joinP a []) w) := by
  obtain ⟨A, c, rfl, -⟩ := hv.open_
  have hb : Below w.heap.size w (w.alloc (.cells #[.int .i64 2, .slice A a.length c] 36)) := (Below.refl _ w).alloc (Nat.le_refl _) _
  have hs : Segs (w.alloc (.cells #[.int .i64 2, .slice A a.length c] 36)) (.slice (some ⟨w.heap.size, 0, none⟩) 1 1) [(2, a)] := ⟨[_], row_seg w 2 _ _, Nums32.one (hv.keep hb)⟩
  have CN := Go.Lib.hid (pnorm_any _ _ _ hs (by simp [bulk]; omega) (fun s h => by rw [List.mem_singleton.1 h]; simp; omega))
  clear hv hs
  go_enter Tryz.func9, Tryz.ntmps9
  go_wp2_with (go_at_call 14; refine (CN.out).mono ?_; rintro e w1 ⟨v1, rfl, h1, hb1⟩)
  go_ret
  exact ⟨_, rfl, by rw [← seq_norm]; exact h1.lower hb.size hb.size, hb.trans (hb1.mono hb.size)⟩

theorem clamp_min (k : Int) : min (max k 0) 255 = ((clampT k : Nat) : Int) := by
  unfold clampT
  split <;> omega

set_option maxRecDepth 100000 in
set_option maxHeartbeats 4000000 in
theorem pprepend_any (v : Value) (p : List Piece) (n : Nat) (k : Int) (w : World) (hv : Segs w v p) (hp : p.length ≤ 12) (hf : FitS 300 p) (hn : n < 4294967296) :
    Calls Tryz.prog 6 #[v, .int .u32 n, .int .i64 k] w (TellsSegs (prependS p n (clampT k)) w) := by
  obtain ⟨i1, E1⟩ := elemSeg
  have hk : clampT k ≤ 255 := by unfold clampT; split <;> omega
  have hc := clamp_min k
  have HV := Go.Lib.hid hv
  obtain ⟨A, c, rfl, hlc, hcc⟩ := hv.form
  obtain ⟨T, hT⟩ : ∃ T, T = prependS p n (clampT k) := ⟨_, rfl⟩
  rw [← hT]
  have HE0 := prepend_norm p n (clampT k) hk
  rw [← hT] at HE0
  generalize clampT k = kk at hk hc HE0
  have HE := Go.Lib.hid HE0
  have CR := Go.Lib.hid (repeat_any _ n kk _ (U32s.one w n 29 hn) hk)
  have CN := Go.Lib.hid (fun v W (h : Segs W v ((2, List.replicate kk n) :: p)) => pnorm_any v _ W h (by
    have h1 := bulk_fit p 300 hf
    have h2 : p.length * (300 + 1) ≤ 12 * 301 := Nat.mul_le_mul_right 301 hp
    simp [bulk] at h1 ⊢
    omega) (fun s h => by
    rcases List.mem_cons.1 h with rfl | h
    · simp; omega
    · exact Nat.le_trans (hf s h) (by omega)))
  have hb0 : Below w.heap.size w (w.alloc (.cells #[.int .u32 n] 29)) := (Below.refl _ w).alloc (Nat.le_refl _) _
  clear hv hT HE0
  obtain ⟨q, hrow, hnums⟩ := HV.out
  have HQ := Go.Lib.hid hnums
  have HW := Go.Lib.hid hrow
  have HO := Go.Lib.hid (ones_segs p q hnums.ones)
  clear hrow hnums
  go_enter Tryz.func6, Tryz.ntmps6
  go_wp2_with (first
    | (go_at_call 13
       refine (CR.out).mono ?_
       rintro e w1 ⟨v1, rfl, hu1, hb1⟩
       obtain ⟨A1, c1, rfl, -⟩ := hu1.open_
       rw [List.length_replicate] at hu1 ⊢
       have hbw1 : Below w.heap.size w w1 := hb0.trans (hb1.mono hb0.size)
       have hlit := World.ownsRow_lit (base := w.heap.size) (e := 36) (size := 2) (w1.alloc (.cells #[.int .i64 2, .slice A1 kk c1] 36)) #[.int .i64 2, .slice A1 kk c1] 1 (by have := hbw1.size; simp; omega) (by decide) rfl
       rw [World.size_alloc] at hlit
       have hB2 : Below w1.heap.size w1 (w1.alloc (.cells #[.int .i64 2, .slice A1 kk c1] 36)) := (Below.refl _ _).alloc (Nat.le_refl _) _
       have hB3 : Below (w1.alloc (.cells #[.int .i64 2, .slice A1 kk c1] 36)).heap.size (w1.alloc (.cells #[.int .i64 2, .slice A1 kk c1] 36)) ((w1.alloc (.cells #[.int .i64 2, .slice A1 kk c1] 36)).alloc (.cells #[.int .i64 2, .slice A1 kk c1] 36)) := (Below.refl _ _).alloc (Nat.le_refl _) _
       have hB23 := hB2.trans (hB3.mono hB2.size)
       have hB2w := hbw1.trans (hB2.mono hbw1.size)
       have hB3w := hbw1.trans (hB23.mono hbw1.size)
       have HLIT := Go.Lib.hid hlit
       have HR3 := Go.Lib.hid (HW.out.keep hB3w)
       have HU1 := Go.Lib.hid (hu1.keep hB2)
       have hsz1 := hbw1.size
       clear hlit)
    | (at_builtin
       refine wpList_append_row rfl (.tmp 17) (.tmp 18) rfl E1 w.heap.size _ 1 _ rfl HLIT.out _ p.length _ rfl HR3.out HO.out ?_ ?_ ?_ (1 + p.length) rfl ?_
       · unfold maxLen; omega
       · omega
       · simp; omega
       intro A' c' W4 hown hg hat hb4
       have hsegs : Segs W4 (.slice A' (1 + p.length) c') ((2, List.replicate kk n) :: p) := by
         have := segs_grown (p := [(2, List.replicate kk n)]) (q := [.slice A1 kk c1]) (p2 := p) (q2 := q) hB3 (Nums32.one HU1.out) (Apart.one fun b off m c e hm e2 => by
             have hu2 := hu1
             rw [e] at hu2
             have := u32_lt hu2 hm
             injection e2 with e2
             have e3 : w1.heap.size + 1 = b := e2
             omega) (HQ.out.keep hB2w) (fun x hx b off m c e hm e2 => by
             have := HQ.out.lt hx e hm
             injection e2 with e2
             have e3 : w1.heap.size + 1 = b := e2
             omega) hg hat (by simp) rfl hown
         exact this.segs)
    | (go_at_call 14
       refine (CN.out _ _ hsegs).mono ?_
       rintro e W5 ⟨v5, rfl, h5, hb5⟩))
  go_ret
  have hbz := hB3w.trans hb4
  exact ⟨_, rfl, by rw [← HE.out]; exact h5.segs, hbz.trans (hb5.mono hbz.size)⟩
end Go.Proofs.YtcdbeljmniaofaaGreatDoor.Seg


/- path's Join: a sequence, and the numbers of a set behind it. -/
namespace Go.Proofs.YtcdbeljmniaofaaGreatDoor.Seg
open Go.RowKit Go.Shelf Mem Rise Segm

attribute [local go_sem] Oper.semAt_some

/-- The sets that the rounds have laid so far. -/
def setP (s : List Nat) (pre : List (Nth s.length)) : List Piece := pre.map fun j => (1, cut255 s j.1)
theorem setP_snoc (s : List Nat) (pre : List (Nth s.length)) (x : Nth s.length) : setP s (pre ++ [x]) = setP s pre ++ [(1, cut255 s x.1)] := by simp [setP]
theorem setP_all {s : List Nat} {ys : List (Nth s.length)} (h : ys.map (·.1) = List.range ((s.length + 254) / 255)) : setP s ys = cuts 1 s := by
  unfold setP cuts cutN
  rw [← h, List.map_map]
  rfl
theorem setP_len (s : List Nat) (pre : List (Nth s.length)) : (setP s pre).length = pre.length := by simp [setP]
theorem setOf_len (l : List Nat) : (setOf l).length ≤ l.length := Nums.length_setOf l
/-- Rows in memory, where a block that is no cells turns. -/
theorem row_own {W W' : World} {row : Option Nat} {v : Value} {n : Nat} {cs : List Value} (h : Row W 2 v n cs) (hg : W.grownBy W' row) (hr : ∀ r, row = some r → ∃ o : Obj, W.heap[r]? = some o ∧ o.isCells = false) : Row W' 2 v n cs := by
  obtain ⟨hl, A, c, rfl, hn, hc, hr2⟩ := h
  refine ⟨hl, A, c, rfl, hn, hc, fun h0 => ?_⟩
  obtain ⟨b, off, rfl, hlt, hcell⟩ := hr2 h0
  refine ⟨b, off, rfl, Nat.lt_of_lt_of_le hlt hg.size, fun i x hx => ?_⟩
  exact cell_kept (hcell i x hx) hg hr
theorem segs_own {W W' : World} {row : Option Nat} {v : Value} {p : List Piece} (h : Segs W v p) (hg : W.grownBy W' row) (hr : ∀ r, row = some r → ∃ o : Obj, W.heap[r]? = some o ∧ o.isCells = false) : Segs W' v p :=
  let ⟨q, h1, h2⟩ := h
  ⟨q, row_own h1 hg hr, h2.own hg hr⟩
theorem bulk_cuts (a s : List Nat) (ha : a.length ≤ 600) (hs : s.length ≤ 600) : bulk ((2, a) :: cuts 1 s) ≤ 40000 := by
  have h1 := bulk_fit (cuts 1 s) 255 (fun x hx => by
    obtain ⟨j, _, rfl⟩ := List.mem_map.1 hx
    exact cut_le s j)
  have h2 : (cuts 1 s).length ≤ 3 := by unfold cuts cutN; rw [List.length_map, List.length_range]; omega
  have h3 : (cuts 1 s).length * (255 + 1) ≤ 3 * 256 := Nat.mul_le_mul_right 256 h2
  simp [bulk] at h1 ⊢
  omega
theorem fit_cuts (a s : List Nat) (ha : a.length ≤ 600) : FitS 4999 ((2, a) :: cuts 1 s) := fun x hx => by
  rcases List.mem_cons.1 hx with rfl | hx
  · exact Nat.le_trans ha (by omega)
  · obtain ⟨j, _, rfl⟩ := List.mem_map.1 hx
    exact Nat.le_trans (cut_le s j) (by omega)
theorem set_call (v : Value) (l : List Nat) (w : World) (hv : U32s w v l) (hlen : l.length < 5000) : Calls Tryz.prog 20 #[v] w fun e w' => Tells32 (setOf l) w e w' ∧ (0 < (setOf l).length → Srt.NewV w e) := by
  rcases Nat.eq_zero_or_pos l.length with h0 | h0
  · obtain rfl := List.length_eq_zero_iff.1 h0
    exact (Srt.set_any v [] w hv (by simp)).mono fun _ _ h => ⟨h, fun h1 => absurd h1 (by decide)⟩
  · exact (Srt.set_new v l w hv h0 hlen).mono fun _ _ h => ⟨h.1, fun _ => h.2⟩

set_option maxRecDepth 100000 in
set_option maxHeartbeats 4000000 in
theorem pjoin_any (va vb : Value) (a b : List Nat) (w : World) (ha : U32s w va a) (hb : U32s w vb b) (hla : a.length ≤ 600) (hlb : b.length ≤ 600) :
    Calls Tryz.prog 11 #[va, vb] w (TellsSegs (joinP a b) w) := by
  obtain ⟨i1, E1⟩ := elemSeg
  obtain ⟨Aa, ca, rfl, -⟩ := ha.open_
  obtain ⟨Ab, cb, rfl, -⟩ := hb.open_
  obtain ⟨W2, hW2⟩ : ∃ W2, W2 = (w.alloc (.cells #[.int .i64 2, .slice Aa a.length ca] 36)).alloc (.cells #[.slice (some ⟨w.heap.size, 0, none⟩) 1 1] 22) := ⟨_, rfl⟩
  have hb2 : Below w.heap.size w W2 := by rw [hW2]; exact ((Below.refl _ w).alloc (Nat.le_refl _) _).alloc (by simp) _
  have hs2 : W2.heap.size = w.heap.size + 1 + 1 := by rw [hW2]; simp
  have bx2 : Boxed W2 (w.heap.size + 1) 22 (.slice (some ⟨w.heap.size, 0, none⟩) 1 1) := by
    have := Boxed.new (w.alloc (.cells #[.int .i64 2, .slice Aa a.length ca] 36)) 22 (.slice (some ⟨w.heap.size, 0, none⟩) 1 1)
    rw [World.size_alloc] at this
    rw [hW2]; exact this
  have hlit : W2.ownsRow w.heap.size 36 2 (.slice (some ⟨w.heap.size, 0, none⟩) 1 1) 1 [.int .i64 2, .slice Aa a.length ca] := by
    have h1 := World.ownsRow_lit (base := w.heap.size) (e := 36) (size := 2) w #[.int .i64 2, .slice Aa a.length ca] 1 (Nat.le_refl _) (by decide) rfl
    rw [hW2]
    exact h1.alloc _
  have hseg : OwnSegsF 36 w.heap.size 0 W2 (.slice (some ⟨w.heap.size, 0, none⟩) 1 1) [(2, a)] := ⟨[_], hlit, Nums32.one (ha.keep hb2), Apart.one fun b' off m c e hm e2 => by
    rw [e] at ha
    have := u32_lt ha hm
    injection e2 with e2
    have e3 : w.heap.size = b' := e2
    omega, FreshQ.zero _⟩
  have HSG := Go.Lib.hid hseg
  have CS := Go.Lib.hid (set_call _ b W2 (hb.keep hb2) (by omega))
  obtain ⟨s, hs⟩ : ∃ s, s = setOf b := ⟨_, rfl⟩
  rw [← hs] at CS
  have hls : s.length ≤ 600 := by rw [hs]; exact Nat.le_trans (setOf_len b) hlb
  have HE := Go.Lib.hid (join_norm a b)
  rw [← hs] at HE
  have CN := Go.Lib.hid (fun v W (h : Segs W v ((2, a) :: cuts 1 s)) => pnorm_any v _ W h (bulk_cuts a s hla hls) (fit_cuts a s hla))
  have HB2 := Go.Lib.hid hb2
  have HBX := Go.Lib.hid bx2
  have HS2 := Go.Lib.hid hs2
  clear hlit hseg hs ha hb hb2 bx2 hs2
  refine (callsIn_wide (n := 5)).1 ?_
  refine callsIn_of_wp_marks Tryz.func11 rfl trivial ?_ rfl
  simp only [Tryz.ntmps11, List.size_toArray, List.length_cons, List.length_nil, Nat.reduceAdd, Nat.reduceSub, Array.replicate_succ, Array.replicate_zero, List.push_toArray, List.append_toArray, List.nil_append, List.cons_append]
  gi_wp2_with (first
    | (refine ⟨trivial, ?_⟩
       gi_at_call 20
       rw [← hW2]
       refine (callsIn_wide.2 CS.out).mono ?_
       rintro e W3 ⟨⟨v3, rfl, hu3, hb3⟩, hnew⟩
       obtain ⟨A3, c3, rfl, hlc3, hc3, -, hcell3⟩ := hu3.open_)
    | (refine ⟨trivial, ?_⟩
       gi_at_call 19
       refine (callsIn_wide.2 (chunk_any A3 s.length c3 _)).mono ?_
       rintro e w' ⟨rfl, rfl⟩))
  have hA : 0 < s.length → ∃ b' off, A3 = some ⟨b', off, none⟩ := fun h => let ⟨b', off, _, e, _⟩ := hcell3 0 h; ⟨b', off, e⟩
  clear hcell3
  have hsz : ((W3.alloc (.cells #[.slice A3 s.length c3] 24)).alloc (.cells #[.int .i64 255] 3)).heap.size = W3.heap.size + 1 + 1 := by simp
  have hB0 : Below W3.heap.size W3 ((W3.alloc (.cells #[.slice A3 s.length c3] 24)).alloc (.cells #[.int .i64 255] 3)) := ((Below.refl _ W3).alloc (Nat.le_refl _) _).alloc (by simp) _
  have bS := Boxed.new W3 24 (.slice A3 s.length c3)
  have bM := Boxed.new (W3.alloc (.cells #[.slice A3 s.length c3] 24)) 3 (.int .i64 255)
  simp only [World.size_alloc] at bM
  have hs3 : w.heap.size + 1 + 1 ≤ W3.heap.size := HS2.out ▸ hb3.size
  have hbw3 : Below w.heap.size w W3 := HB2.out.trans (hb3.mono HB2.out.size)
  have bx3 : Boxed W3 (w.heap.size + 1) 22 (.slice (some ⟨w.heap.size, 0, none⟩) 1 1) := below_box hb3 HBX.out.lt HBX.out
  have R0 : Rounds w.heap.size 0 W3.heap.size (w.heap.size + 1) W3.heap.size (Value.slice (some ⟨w.heap.size, 0, none⟩) 1 1).ownBlock W3 (.slice A3 s.length c3) ([(2, a)] ++ setP s []) (.slice (some ⟨w.heap.size, 0, none⟩) 1 1) ((W3.alloc (.cells #[.slice A3 s.length c3] 24)).alloc (.cells #[.int .i64 255] 3)) :=
    ⟨(bx3.alloc _).alloc _, (HSG.out.keep hb3).keep hB0, .inl rfl, bS.alloc _, bS.alloc _, bM, Spared.refl.below (Nat.le_refl _) hB0⟩
  have hfar : ∀ b' off m c, Value.slice A3 s.length c3 = .slice (some ⟨b', off, none⟩) m c → 0 < m → w.heap.size + 1 < b' ∧ b' < W3.heap.size := fun b' off m c e hm => by
    have h1 : 0 < s.length := by injection e; omega
    have h2 := hnew h1 _ b' off m c rfl e
    have h3 := hu3
    rw [e] at h3
    have h4 := u32_lt h3 hm
    have h5 := HS2.out
    omega
  have hun : ∀ X, Spared W3.heap.size (w.heap.size + 1) (Value.slice (some ⟨w.heap.size, 0, none⟩) 1 1).ownBlock W3 X → U32s X (.slice A3 s.length c3) s := fun X h => h.u32 hu3 fun b' off m c' e hm => by
    have h1 := hfar b' off m c' e hm
    refine ⟨by omega, by omega, fun e2 => ?_⟩
    injection e2 with e2
    have e3 : b' = w.heap.size := e2
    omega
  refine wpIn_rangeFunc_ownG rfl (by omega) (gf := 29) (lb := #[.pointer (some ⟨W3.heap.size, 0, none⟩), .pointer (some ⟨W3.heap.size + 1, 0, none⟩)]) rfl trivial (enters_of Tryz.func29 (by kernel_rfl) rfl)
    (chunk1_stops _ A3 s.length c3 (by omega) hlc3 hc3 hA W3.heap.size _ (by omega) R0.src R0.num) (fun h k => KeepTwo.trans h k) ?keepb (Below.refl _ _) (fun _ => rfl)
    (fun pre X => ∃ v, Rounds w.heap.size 0 W3.heap.size (w.heap.size + 1) W3.heap.size (Value.slice (some ⟨w.heap.size, 0, none⟩) 1 1).ownBlock W3 (.slice A3 s.length c3) ([(2, a)] ++ setP s pre) v X)
    (fun _ _ _ => False)
    (rounds_own (by simp; omega)) (fun _ _ _ _ _ h _ _ => h) ⟨_, R0⟩
    (fun x => { tmps := #[.slice Aa a.length ca, .slice Ab b.length cb, undef, undef, .slice none 0 0, .pointer (some ⟨w.heap.size + 1, 0, none⟩), pieceV A3 s.length x.1, .slice Aa a.length ca, .agg #[.int .i64 2, .slice Aa a.length ca], .slice (some ⟨w.heap.size, 0, none⟩) 1 1, .slice Ab b.length cb, .slice A3 s.length c3, .func (.func 29) #[] #[.pointer (some ⟨W3.heap.size, 0, none⟩), .pointer (some ⟨W3.heap.size + 1, 0, none⟩)], pieceV A3 s.length x.1, undef, undef, undef, undef, undef, undef, undef], defers := [] }) ?assign ?body ?done ?stop
  case keepb =>
    intro X l o o' hl _ _ _
    simp only [World.size_alloc] at hl
    exact ⟨World.putObj_heap_other (by omega), World.putObj_heap_other (by omega)⟩
  case assign =>
    intro l x X K hK
    gi_wp2
    exact hK
  case body =>
    rintro l pre x X ⟨v, hX⟩ hlt
    obtain ⟨b3, off3, rfl⟩ := hA (by have := x.2; omega)
    have hp := (hun X hX.rest).piece (by have := x.2; unfold cutN; omega : x.1 < cutN s)
    have hxl := x.2
    obtain ⟨P, hP⟩ : ∃ P, P = [(2, a)] ++ setP s pre := ⟨_, rfl⟩
    have hPl : P.length ≤ 1000 := by rw [hP, List.length_append, setP_len]; simp; omega
    have HN := Go.Lib.hid (show [(2, a)] ++ setP s (pre ++ [x]) = P ++ [(1, cut255 s x.1)] by rw [hP, setP_snoc, List.append_assoc])
    rw [← hP] at hX
    clear hP
    obtain ⟨q, hown, hq, hap, -⟩ := hX.own
    have hrow := hX.row
    obtain ⟨L, hL⟩ : ∃ L, L = P.length := ⟨_, rfl⟩
    rw [← hL] at hown hPl
    obtain ⟨Av, cv, rfl⟩ := own_form hown
    have cN := hrow.cell
    have fN := hrow.frozen
    obtain ⟨j, hj⟩ := x
    simp only at hp HN hxl
    obtain ⟨m, hm⟩ : ∃ m, m = min 255 (s.length - 255 * j) := ⟨_, rfl⟩
    rw [← hm] at hp
    have hne := Go.Lib.hid (show ∀ b' off m' c, Value.slice (some ⟨b3, off3 + 255 * j, none⟩) m m = .slice (some ⟨b', off, none⟩) m' c → 0 < m' → (Value.slice Av L cv).ownBlock ≠ some b' from fun b' off m' c e _ e2 => by
      injection e with e
      injection e with e
      injection e with e
      have h1 := hfar b3 off3 s.length c3 rfl (by omega)
      rcases hX.at_ with h | ⟨b5, h, h3⟩
      · rw [h] at e2
        injection e2 with e2
        have e3 : w.heap.size = b' := e2
        omega
      · rw [h] at e2
        injection e2 with e2
        omega)
    have hbs : W3.heap.size ≤ X.heap.size := hX.rest.size
    have HX := Go.Lib.hid hX
    have HLL := Go.Lib.hid hL
    have HP := Go.Lib.hid hp
    have HQ := Go.Lib.hid hq
    have HA := Go.Lib.hid hap
    have HO := Go.Lib.hid hown
    have HRW := Go.Lib.hid hrow
    have HF := Go.Lib.hid hs3
    simp only [pieceV, Option.map_some]
    rw [← hm]
    clear hm hL hq hap hown hX hp hrow hun hfar
    gi_wp2_with (gi_at_builtin; refine wpListIn_append_row rfl (.tmp 14) (.tmp 17) rfl E1 w.heap.size _ L _ rfl (HO.out.alloc _) _ 1 [.int .i64 1, .slice (some ⟨b3, off3 + 255 * j, none⟩) m m] rfl (row_seg_at _ _ _ _ rfl) (ones_two _ _ _ _) ?_ ?_ ?_ (L + 1) rfl ?_; (· unfold maxLen; omega); (· omega); (· simp; omega); intro A4 c4 X2 hown4 hg4 hat4 hb4; have r3 : Boxed X2 (w.heap.size + 1) _ _ := (HRW.out.alloc _).kept hg4 (HRW.out.not_row (by decide) HO.out); have cN3 := r3.cell; have fN3 := r3.frozen)
    obtain ⟨k1, k2, k3⟩ := round_step HX.out HLL.out (by have := HF.out; omega) (by have := HF.out; omega) (by have := HF.out; omega) HO.out HQ.out HA.out (FreshQ.zero _) (Below.refl _ _) HP.out hne.out (FreshQ.zero _) hbs hown4 hg4 hat4
    exact ⟨k1.from _, k2, _, by rw [HN.out]; exact k3⟩
  case done =>
    rintro D ys X hD hys ⟨v, hX⟩ hK
    have hsegs := hX.own.segs
    rw [setP_all hys] at hsegs
    have CN5 := Go.Lib.hid (CN.out v X hsegs)
    have c9 := hX.row.cell
    have HX := Go.Lib.hid hX
    have HD := Go.Lib.hid hD
    have HK := Go.Lib.hid hK
    rw [HE.out] at CN5
    clear hys hX hD hsegs hK
    gi_wp2_with (refine ⟨trivial, ?_⟩; gi_at_call 14; refine (callsIn_wide.2 CN5.out).mono ?_; rintro e X5 ⟨v5, rfl, h5, hb5⟩)
    have hX := HX.out
    have hD := HD.out
    have hK5 := (hb5.block D (Array.getElem?_eq_some_iff.1 HK.out).1).trans HK.out
    have hbX : Below w.heap.size w X := hbw3.trans (hX.rest.of_below (by omega) (by omega) (by omega) fun b' e => by
      injection e with e
      have e3 : w.heap.size = b' := e
      omega)
    have hb6 := hbX.trans (hb5.mono hbX.size)
    refine ⟨by simp, .inl ⟨_, _, rfl, run_takeDeferred hK5, ?_⟩⟩
    exact ⟨_, results_tmp rfl _ _ _, v5, rfl, segs_own h5.segs (grownBy_putObj' X5 D (.deferred none)) (fun r e => by cases e; exact ⟨_, hK5, rfl⟩), hb6.trans (belowK_b (w := w) (Nat.le_refl _) _ D _ (.deferred none) (by simp at hD; omega) hK5 rfl rfl)⟩
  case stop =>
    rintro D c' pre X _ _ h _
    exact h.elim
end Go.Proofs.YtcdbeljmniaofaaGreatDoor.Seg
