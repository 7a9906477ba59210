/- The reference's Head: what is told of a head of 19 bytes. -/
import Derived.Test.YtgeekckoepnccaaFrmMem
import Derived.Test.YtgeekckoepnccaaOctNew
import Derived.Test.YtgeekckoepnccaaOctRd
import Derived.IntWalk
namespace Go.Proofs.Ytgeekckoepnccaa.Frm
open Go.RowKit Mem Oct Att
open Go.Lib (hid)

theorem box_low (w : World) (x y z : Value) : Below w.heap.size w (w.alloc (.cells #[x, y, z] 29)) := (Below.refl _ w).alloc (Nat.le_refl _) _
theorem add_at (b o i : Nat) : (⟨b, o, none⟩ : Addr).add i = ⟨b, o + i, none⟩ := by unfold Addr.add; split <;> simp_all
/-- A piece of bytes that lie where they lay. -/
theorem U8s.mid {w : World} {l : List Nat} {b off n c i k : Nat} (h : U8s w (.slice (some ⟨b, off, none⟩) n c) l) (hik : i + k ≤ l.length) (hc : i < c) :
    U8s w (.slice (some ⟨b, off + i, none⟩) k (c - i)) ((l.drop i).take k) := by
  obtain ⟨A, c', e, hl, hm⟩ := h.form
  injection e with e1 e2 e3
  subst e1 e2 e3
  have h1 := h.cut (k := i) (by omega)
  rw [if_neg (by omega)] at h1
  have h2 : U8s w (.slice (some ⟨b, off + i, none⟩) (l.length - i) (c - i)) (l.drop i) := by
    rw [Option.map_some, add_at] at h1
    exact h1
  exact h2.prefix_ (by rw [List.length_drop]; omega) (by omega) (by unfold maxLen; omega)
theorem U8s.cell {w : World} {l : List Nat} {b off n c i : Nat} (h : U8s w (.slice (some ⟨b, off, none⟩) n c) l) (hi : i < l.length) : ∃ x, l[i]? = some x ∧ x < 256 ∧ w.cell? ⟨b, off + i, none⟩ = some (.int .u8 x) := by
  obtain ⟨b', off', x, e, -, hx, hx2, hc⟩ := h.at_ hi
  injection e with e
  injection e with e1 e2
  subst e1 e2
  exact ⟨x, hx, hx2, hc⟩
/-- What Head gives. -/
def HeadF (n : No) (w : World) (e : Ending) (w' : World) : Prop :=
  ∃ A k c, e = .returned (.agg #[.int .i64 n.code, .int .i64 n.sub, .slice A k c]) ∧ U8s w' (.slice A k c) n.data ∧ Below w.heap.size w w'
theorem head_end {w x : World} {a s : Value} {v : Value} {d : List Nat} (hX : Box3 x w.heap.size 29 (.int .i64 0) (.int .i64 0) (.slice none 0 0)) (hb : Below w.heap.size w x) (hU : U8s x v d) (o : Obj) :
    U8s ((three x w.heap.size a s v).alloc o) v d ∧ Below w.heap.size w ((three x w.heap.size a s v).alloc o) := by
  have ho := three_off x w.heap.size a s v
  have h1 := three_low hb w.heap.size (Nat.le_refl _) a s v
  exact ⟨(u8_apart hU (hX.no8 (no8_i _) (no8_i _) (no8_s _ _ _)) ho.1 ho.2).keep ((Below.refl _ _).alloc (Nat.le_refl _) _), h1.alloc h1.size _⟩
theorem head_end2 {w x : World} {a s : Value} {v : Value} {d : List Nat} (hX : Box3 x w.heap.size 29 (.int .i64 0) (.int .i64 0) (.slice none 0 0)) (hb : Below w.heap.size w x) (hU : U8s x v d) (o o2 : Obj) :
    U8s (((three x w.heap.size a s v).alloc o).alloc o2) v d ∧ Below w.heap.size w (((three x w.heap.size a s v).alloc o).alloc o2) :=
  have h := head_end (a := a) (s := s) hX hb hU o
  ⟨h.1.keep ((Below.refl _ _).alloc (Nat.le_refl _) _), h.2.alloc h.2.size _⟩
theorem lenH_lt {l : List Nat} (h : Small l) : lenH l < 65536 := by
  unfold lenH
  have h1 := val_lt 2 (h.drop 16)
  exact h1
set_option maxRecDepth 100000 in
set_option maxHeartbeats 4000000 in
theorem head_any (b off c : Nat) (l : List Nat) (w : World) (hv : U8s w (.slice (some ⟨b, off, none⟩) 19 c) l) (hl : l.length = 19) : Calls Try.prog 21 #[.slice (some ⟨b, off, none⟩) 19 c] w (HeadF (headH l) w) := by
  have hc : 19 ≤ c ∧ c ≤ 9223372036854775807 := by
    obtain ⟨_, _, e, h1, h2⟩ := hv.form
    injection e with _ _ e
    rw [e]; omega
  have HX := hid (Box3.new w 29 (.int .i64 0) (.int .i64 0) (.slice none 0 0))
  have BB := hid (box_low w (.int .i64 0) (.int .i64 0) (.slice none 0 0))
  have HV := hid (hv.keep BB.out)
  obtain ⟨c0, c1, c2⟩ := HX.out.cells
  have ff := HX.out.free
  have HL := hid hl
  clear hv
  go_enter Try.func21, Try.ntmps21
  go_wp2
  go_loopw [3, 7, 8, 9, 10, 11, 12, 13, 14, 15] (fun v3 _ _ _ _ _ _ _ _ _ wx => ∃ i : Nat, i ≤ 16 ∧ v3 = .int .i64 i ∧ Hid ((l.take i).all (fun x => decide (x = 255)) = true) ∧ wx = w.alloc (.cells #[.int .i64 0, .int .i64 0, .slice none 0 0] 29)) (fun v3 _ _ _ _ _ _ _ _ _ _ => 16 - (intOf v3).toNat)
  case atStart => exact ⟨0, Nat.zero_le _, rfl, hid rfl, rfl⟩
  case round =>
    obtain ⟨i, hi, rfl, HA, rfl⟩ := hrel
    by_cases hlt : i < 16
    · obtain ⟨x, hx, hx2, hcell⟩ := U8s.cell HV.out (show i < l.length by have := HL.out; omega)
      have z0 : (0 : Int) ≤ (i : Int) := by omega
      have z1 : (i : Int) < 16 := by omega
      have z2 : (i : Int) < 19 := by omega
      have HI := hid hx
      clear hx
      by_cases h255 : x = 255
      · subst h255
        go_wp2
        go_roundw
        case rel => exact ⟨i + 1, hlt, by go_num, hid (by rw [List.take_add_one, HI.out, List.all_append, HA.out]; rfl), trivial⟩
        case measure => simp [intOf]; omega
      · have y : ((x : Int) != 255) = true := by simp; omega
        have HN := hid (show headH l = ⟨1, 1, []⟩ from by
          have h : (l.take 16).all (fun x => decide (x = 255)) = false := by
            rw [List.all_eq_false]
            exact ⟨x, List.mem_iff_getElem?.2 ⟨i, by rw [List.getElem?_take, if_pos hlt]; exact HI.out⟩, by simpa using h255⟩
          unfold headH
          rw [if_pos h])
        clear h255
        go_wp2
        (try simp only [Exit.inBlock, Exit.then])
        refine bodyPost_ret (v := .agg #[.int .i64 1, .int .i64 1, .slice none 0 0]) (by simp [results, Try.results21, go_sem]) rfl ?_
        rw [HN.out]
        exact ⟨none, 0, 0, rfl, U8s.nil _, box_low _ _ _ _⟩
    · obtain rfl : i = 16 := by omega
      obtain ⟨T, hT, hT2, c18⟩ := U8s.cell HV.out (show 18 < l.length by have := HL.out; omega)
      have HN := hid (lenH_lt HV.out.2)
      have hm := U8s.mid HV.out (i := 16) (k := 2) (by have := HL.out; omega) (by omega)
      have hm1 := U8s.mid HV.out (i := 18) (k := 1) (by have := HL.out; omega) (by omega)
      have CN := hid (num_any _ _ _ hm (by rw [List.length_take]; omega))
      have HM := hid (And.intro hm hm1)
      have HT := hid (show typH l = T by unfold typH; rw [hT]; rfl)
      have HH := hid (show headH l = if lenH l < 19 ∨ 4096 < lenH l then ⟨1, 2, (l.drop 16).take 2⟩
  else if T < 1 ∨ 4 < T then ⟨1, 3, (l.drop 18).take 1⟩
  else if lenH l < leastH T ∨ (T = 4 ∧ 19 < lenH l) then ⟨1, 2, (l.drop 16).take 2⟩
  else noneF from by
        unfold headH
        rw [HT.out, if_neg (by rw [HA.out]; decide)])
      have e2 : ((l.drop 16).take 2).length = 2 := by rw [List.length_take, List.length_drop, HL.out]; rfl
      have e1 : ((l.drop 18).take 1).length = 1 := by rw [List.length_take, List.length_drop, HL.out]; rfl
      have CN2 := hid (show Calls Try.prog 22 #[.slice (some ⟨b, off + 16, none⟩) 2 (c - 16)] (w.alloc (.cells #[.int .i64 0, .int .i64 0, .slice none 0 0] 29)) (Tells (.int .u32 (lenH l)) _) from CN.out)
      have hL := HN.out
      clear CN hm hm1 hT HA HN HT hlt hi
      generalize lenH l = N at CN2 HH hL
      have wo : IntKind.i64.wrap (N : Int) = (N : Int) := IntWalk.i64_in _ (by omega)
      have hc16 : ¬ c = 16 := by omega
      have hc18 : ¬ c = 18 := by omega
      have HE := hid (And.intro e1 e2)
      clear e1 e2
      rcases Nat.lt_or_ge N 19 with h1 | h1
      focus
        have KB := hid True.intro
        have z1 : (N : Int) < 19 := by omega
        have R := hid (show headH l = ⟨1, 2, (l.drop 16).take 2⟩ by rw [HH.out]; rw [if_pos (by omega)])
      rotate_left
      rcases Nat.lt_or_ge 4096 N with h2 | h2
      focus
        have KB := hid True.intro
        have z1 : (19 : Int) ≤ N := by omega
        have z2 : (4096 : Int) < N := by omega
        have R := hid (show headH l = ⟨1, 2, (l.drop 16).take 2⟩ by rw [HH.out]; rw [if_pos (by omega)])
      rotate_left
      rcases Nat.lt_or_ge T 1 with h3 | h3
      focus
        have KT := hid True.intro
        have z1 : (19 : Int) ≤ N := by omega
        have z2 : (N : Int) ≤ 4096 := by omega
        have z3 : (T : Int) < 1 := by omega
        have R := hid (show headH l = ⟨1, 3, (l.drop 18).take 1⟩ by rw [HH.out]; rw [if_neg (by omega), if_pos (by omega)])
      rotate_left
      rcases Nat.lt_or_ge 4 T with h4 | h4
      focus
        have KT := hid True.intro
        have z1 : (19 : Int) ≤ N := by omega
        have z2 : (N : Int) ≤ 4096 := by omega
        have z3 : (1 : Int) ≤ T := by omega
        have z4 : (4 : Int) < T := by omega
        have R := hid (show headH l = ⟨1, 3, (l.drop 18).take 1⟩ by rw [HH.out]; rw [if_neg (by omega), if_pos (by omega)])
      rotate_left
      rcases (show T = 1 ∨ T = 2 ∨ T = 3 ∨ T = 4 by omega) with rfl | rfl | rfl | rfl
      rcases Nat.lt_or_ge N 29 with h5 | h5
      focus
        have KD := hid True.intro
        have z1 : (19 : Int) ≤ N := by omega
        have z2 : (N : Int) ≤ 4096 := by omega
        have z3 : (N : Int) < 29 := by omega
        have R := hid (show headH l = ⟨1, 2, (l.drop 16).take 2⟩ by rw [HH.out]; rw [if_neg (by omega), if_neg (by omega), if_pos (.inl (by show N < 29; omega))])
      rotate_left
      focus
        have KE := hid True.intro
        have z1 : (19 : Int) ≤ N := by omega
        have z2 : (N : Int) ≤ 4096 := by omega
        have z3 : (29 : Int) ≤ N := by omega
        have R := hid (show headH l = noneF by rw [HH.out]; rw [if_neg (by omega), if_neg (by omega), if_neg (by show ¬ (N < 29 ∨ _); omega)])
      rotate_left
      rcases Nat.lt_or_ge N 23 with h5 | h5
      focus
        have KD := hid True.intro
        have z1 : (19 : Int) ≤ N := by omega
        have z2 : (N : Int) ≤ 4096 := by omega
        have z3 : (N : Int) < 23 := by omega
        have R := hid (show headH l = ⟨1, 2, (l.drop 16).take 2⟩ by rw [HH.out]; rw [if_neg (by omega), if_neg (by omega), if_pos (.inl (by show N < 23; omega))])
      rotate_left
      focus
        have KE := hid True.intro
        have z1 : (19 : Int) ≤ N := by omega
        have z2 : (N : Int) ≤ 4096 := by omega
        have z3 : (23 : Int) ≤ N := by omega
        have R := hid (show headH l = noneF by rw [HH.out]; rw [if_neg (by omega), if_neg (by omega), if_neg (by show ¬ (N < 23 ∨ _); omega)])
      rotate_left
      rcases Nat.lt_or_ge N 21 with h5 | h5
      focus
        have KD := hid True.intro
        have z1 : (19 : Int) ≤ N := by omega
        have z2 : (N : Int) ≤ 4096 := by omega
        have z3 : (N : Int) < 21 := by omega
        have R := hid (show headH l = ⟨1, 2, (l.drop 16).take 2⟩ by rw [HH.out]; rw [if_neg (by omega), if_neg (by omega), if_pos (.inl (by show N < 21; omega))])
      rotate_left
      focus
        have KE := hid True.intro
        have z1 : (19 : Int) ≤ N := by omega
        have z2 : (N : Int) ≤ 4096 := by omega
        have z3 : (21 : Int) ≤ N := by omega
        have R := hid (show headH l = noneF by rw [HH.out]; rw [if_neg (by omega), if_neg (by omega), if_neg (by show ¬ (N < 21 ∨ _); omega)])
      rotate_left
      rcases Nat.lt_or_ge 19 N with h5 | h5
      focus
        have KD := hid True.intro
        have z1 : (19 : Int) ≤ N := by omega
        have z2 : (N : Int) ≤ 4096 := by omega
        have z3 : (19 : Int) < N := by omega
        have R := hid (show headH l = ⟨1, 2, (l.drop 16).take 2⟩ by rw [HH.out]; rw [if_neg (by omega), if_neg (by omega), if_pos (.inr ⟨rfl, by omega⟩)])
      rotate_left
      focus
        have KE := hid True.intro
        have z1 : (19 : Int) ≤ N := by omega
        have z2 : (N : Int) ≤ 4096 := by omega
        have z3 : (N : Int) ≤ 19 := by omega
        have R := hid (show headH l = noneF by rw [HH.out]; rw [if_neg (by omega), if_neg (by omega), if_neg (by show ¬ (N < 19 ∨ _); omega)])
      rotate_left
      all_goals
        clear HH
        (try clear h1)
        (try clear h2)
        (try clear h3)
        (try clear h4)
        (try clear h5)
        go_wp2_with (go_at_call 22; refine (CN2.out).mono ?_; rintro e x ⟨rfl, hb⟩; have B := hid (BB.out.trans (hb.mono BB.out.size)); have X := HX.out.keep hb; have M := hid (And.intro (HM.out.1.keep hb) (HM.out.2.keep hb)); replace c18 := keepsT hb c18; clear c0 c1 c2 ff hb; have hsz := X.lt; have hbx := block_lt_of_cell c18; have HX2 := hid X; obtain ⟨c0, c1, c2⟩ := X.cells; have ff := X.free; clear X)
        (try simp only [Exit.inBlock, Exit.then])
        first
          | (have tok := KB.out
             have r0 := (HX2.out.set0 (.int .i64 1)).cells.1
             have r1 := ((HX2.out.set0 (.int .i64 1)).set1 (.int .i64 2)).cells.2.1
             have r2 := (HX2.out.laid (.int .i64 1) (.int .i64 2) (.slice (some ⟨b, off + 16, none⟩) 2 (c - 16))).cells.2.2
             unfold three at r2
             refine bodyPost_ret (v := .agg #[(.int .i64 1), (.int .i64 2), (.slice (some ⟨b, off + 16, none⟩) 2 (c - 16))]) (by simp [results, Try.results21, go_sem, hsz, r0, r1, r2]) rfl ?_
             rw [R.out]
             exact ⟨_, _, _, rfl, head_end HX2.out B.out M.out.1 _⟩)
          | (have tok := KT.out
             have r0 := (HX2.out.set0 (.int .i64 1)).cells.1
             have r1 := ((HX2.out.set0 (.int .i64 1)).set1 (.int .i64 3)).cells.2.1
             have r2 := (HX2.out.laid (.int .i64 1) (.int .i64 3) (.slice (some ⟨b, off + 18, none⟩) 1 (c - 18))).cells.2.2
             unfold three at r2
             refine bodyPost_ret (v := .agg #[(.int .i64 1), (.int .i64 3), (.slice (some ⟨b, off + 18, none⟩) 1 (c - 18))]) (by simp [results, Try.results21, go_sem, hsz, r0, r1, r2]) rfl ?_
             rw [R.out]
             exact ⟨_, _, _, rfl, head_end HX2.out B.out M.out.2 _⟩)
          | (have tok := KD.out
             have r0 := (HX2.out.set0 (.int .i64 1)).cells.1
             have r1 := ((HX2.out.set0 (.int .i64 1)).set1 (.int .i64 2)).cells.2.1
             have r2 := (HX2.out.laid (.int .i64 1) (.int .i64 2) (.slice (some ⟨b, off + 16, none⟩) 2 (c - 16))).cells.2.2
             unfold three at r2
             refine bodyPost_ret (v := .agg #[(.int .i64 1), (.int .i64 2), (.slice (some ⟨b, off + 16, none⟩) 2 (c - 16))]) (by simp [results, Try.results21, go_sem, hsz, r0, r1, r2]) rfl ?_
             rw [R.out]
             exact ⟨_, _, _, rfl, head_end2 HX2.out B.out M.out.1 _ _⟩)
          | (have tok := KE.out
             have r0 := (HX2.out.set0 (.int .i64 0)).cells.1
             have r1 := ((HX2.out.set0 (.int .i64 0)).set1 (.int .i64 0)).cells.2.1
             have r2 := (HX2.out.laid (.int .i64 0) (.int .i64 0) (.slice none 0 0)).cells.2.2
             unfold three at r2
             refine bodyPost_ret (v := .agg #[(.int .i64 0), (.int .i64 0), (.slice none 0 0)]) (by simp [results, Try.results21, go_sem, hsz, r0, r1, r2]) rfl ?_
             rw [R.out]
             exact ⟨_, _, _, rfl, head_end2 HX2.out B.out (U8s.nil _) _ _⟩)
end Go.Proofs.Ytgeekckoepnccaa.Frm
