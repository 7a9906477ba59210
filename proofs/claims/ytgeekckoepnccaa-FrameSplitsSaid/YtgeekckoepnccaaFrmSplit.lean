/- The program's Split: the messages with which bytes begin, in memory of their own. -/
import Derived.Test.YtgeekckoepnccaaFrmJudge
import Derived.Test.YtgeekckoepnccaaFrmPieces
namespace Go.Proofs.Ytgeekckoepnccaa.Frm
open Go.RowKit Mem Oct Att
open Go.Lib (hid)

/-- What Split gives. -/
def SplitF (b : List Nat) (w : World) (e : Ending) (w' : World) : Prop :=
  ∃ A c q A2 k2 c2, e = .returned (.tuple #[.slice A (pcs b).1.length c, .int .i64 ((pcs b).2.1 : Nat), .agg #[.int .i64 (pcs b).2.2.code, .int .i64 (pcs b).2.2.sub, .slice A2 k2 c2]]) ∧
    w'.ownsRow w.heap.size 57 2 (.slice A (pcs b).1.length c) (pcs b).1.length (frmCells (pcs b).1 q) ∧ Bods w' (pcs b).1 q ∧ Off q (fun b => b < w.heap.size) ∧ U8s w' (.slice A2 k2 c2) (pcs b).2.2.data ∧ Off [.slice A2 k2 c2] (fun b => b < w.heap.size) ∧ Below w.heap.size w w'
theorem SplitF.pieces {b : List Nat} {w w' : World} {e : Ending} (h : SplitF b w e w') : PiecesF b w e w' := by
  obtain ⟨A, c, q, A2, k2, c2, h1, h2, h3, h4, h5, h6, h7⟩ := h
  exact ⟨A, c, A2, k2, c2, h1, ⟨q, Row.of_own h2, h3⟩, h5, h7⟩
/-- A box of results, and messages of one's own. -/
structure SpSt (w : World) (P : List Pc) (A : Option Addr) (cp : Nat) (q : List Value) (W : World) : Prop where
  box : Box3 W w.heap.size 29 (.int .i64 0) (.int .i64 0) (.slice none 0 0)
  low : Below w.heap.size w W
  row : W.ownsRow (w.heap.size + 1) 57 2 (.slice A P.length cp) P.length (frmCells P q)
  bods : Bods W P q
  ap : Apart (.slice A P.length cp) q
  off : Off q (fun b => b < w.heap.size)
theorem SpSt.keep {w W W2 : World} {P : List Pc} {A : Option Addr} {cp : Nat} {q : List Value} (h : SpSt w P A cp q W) (hb : Below W.heap.size W W2) : SpSt w P A cp q W2 :=
  ⟨h.box.keep hb, h.low.trans (hb.mono h.low.size), own_keep h.row hb, h.bods.keep hb, h.ap, h.off⟩
theorem split_end {w W : World} {b : List Nat} {P : List Pc} {A A2 : Option Addr} {cp k k2 c2 : Nat} {q : List Value} {code sub : Int} {d : List Nat} (h : SpSt w P A cp q W) (he : pcs b = (P, k, ⟨code, sub, d⟩)) (hU : U8s W (.slice A2 k2 c2) d) (hO : Off [.slice A2 k2 c2] (fun b => b < w.heap.size)) :
    SplitF b w (.returned (.tuple #[.slice A P.length cp, .int .i64 (k : Nat), .agg #[.int .i64 code, .int .i64 sub, .slice A2 k2 c2]])) (three W w.heap.size (.int .i64 code) (.int .i64 sub) (.slice A2 k2 c2)) := by
  have ho := three_off W w.heap.size (.int .i64 code) (.int .i64 sub) (.slice A2 k2 c2)
  have hn := h.box.no8 (no8_i _) (no8_i _) (no8_s _ _ _)
  unfold SplitF
  rw [he]
  exact ⟨A, cp, q, A2, k2, c2, rfl, own_base (own_same2 h.row (fun g hg => ho.1 g (by have := (h.row.lt g hg).1; omega))) (Nat.le_succ _), ⟨h.bods.1, fun j s x e1 e2 => u8_apart (h.bods.2 j s x e1 e2) hn ho.1 ho.2⟩, h.off, u8_apart hU hn ho.1 ho.2, hO, three_low h.low _ (Nat.le_refl _) _ _ _⟩
theorem SplitF.drew {b : List Nat} {w W : World} {e : Ending} (h : SplitF b w e W) : SplitF b w e W.drew := by
  obtain ⟨A, c, q, A2, k2, c2, h1, h2, h3, h4, h5, h6, h7⟩ := h
  have hd : Below W.heap.size W W.drew := (Below.refl _ _).drew
  exact ⟨A, c, q, A2, k2, c2, h1, own_keep h2 hd, h3.keep hd, h4, h5.keep hd, h6, h7.drew⟩
theorem elemFs : ∃ i, IsElem Try.prog 26 57 2 32 i (.agg #[.int .i64 0, .slice none 0 0]) := IsElem.mk_ Try.underlying26 (by kernel_rfl) rfl (by decide)
theorem off_own {W : World} {base n m : Nat} {t : TypeId} {v : Value} {xs : List Value} (h : W.ownsRow base t 1 v m xs) (hb : n ≤ base) : Off [v] (fun b => b < n) := fun x hx b off m c e _ hlt => by
  rw [List.mem_singleton.1 hx] at e
  have := (h.lt b (by rw [e]; rfl)).1
  omega
theorem Off.less {q : List Value} {n m : Nat} (h : Off q (fun b => b < m)) (hn : n ≤ m) : Off q (fun b => b < n) := fun x hx b off m c e hm hlt => h x hx b off m c e hm (Nat.lt_of_lt_of_le hlt hn)
/-- A body that has just been laid lies apart of the row. -/
theorem SpSt.fresh {w W W2 : World} {P : List Pc} {A : Option Addr} {cp m : Nat} {q : List Value} {t : TypeId} {v : Value} {xs : List Value} (h : SpSt w P A cp q W) (ho : W2.ownsRow W.heap.size t 1 v m xs) : Apart (.slice A P.length cp) [v] := Apart.one fun b off m c e _ e2 => by
  have h1 := (ho.lt b (by rw [e]; rfl)).1
  have h2 := (h.row.lt b e2).2
  omega
/-- One message more. -/
theorem sp_more {w z W' : World} {P : List Pc} {A A' : Option Addr} {cp c' T : Nat} {q : List Value} {xv : Value} {D : List Nat} {o : Obj} (h : SpSt w P A cp q z) (hD : U8s z xv D) (ha : Apart (.slice A P.length cp) [xv]) (hO : Off [xv] (fun b => b < w.heap.size))
    (hown : W'.ownsRow (w.heap.size + 1) 57 2 (.slice A' (P.length + 1) c') (P.length + 1) (frmCells P q ++ [.int .i64 (T : Nat), xv])) (hg : (z.alloc o).grownBy W' (Value.slice A P.length cp).ownBlock)
    (hat : (Value.slice A' (P.length + 1) c').ownBlock = (Value.slice A P.length cp).ownBlock ∨ (Value.slice A' (P.length + 1) c').ownBlock = some (z.alloc o).heap.size) (hb : Below (w.heap.size + 1) (z.alloc o) W') : SpSt w (P ++ [(T, D)]) A' c' (q ++ [xv]) W' := by
  have hX : Below z.heap.size z (z.alloc o) := (Below.refl _ _).alloc (Nat.le_refl _) _
  have hlow := h.low.trans (hX.mono h.low.size)
  have hb1 : w.heap.size < (z.alloc o).heap.size := Nat.lt_of_lt_of_le h.box.lt hX.size
  obtain ⟨h1, h2, h3⟩ := frms_grownQ hX h.bods h.ap (Bods.one (s := (T, D)) hD) ha hg hat hX.size rfl hown
  rw [List.length_append, List.length_singleton] at h1
  refine ⟨(h.box.keep hX).below (fun k hk => hb.block k (by omega)), hlow.trans (hb.mono (Nat.le_succ _)), ?_, h2, ?_, fun x hx => (List.mem_append.1 hx).elim (h.off x) (hO x)⟩
  · rw [List.length_append, List.length_singleton]; exact h1
  · rw [List.length_append, List.length_singleton]; exact h3
theorem cut_all {b : List Nat} (h : 19 ≤ b.length) : headH (b.take 19) = headH b ∧ lenH (b.take 19) = lenH b ∧ typH (b.take 19) = typH b := by
  have h1 := headH_front (b := b.take 19) (b.drop 19) (by rw [List.length_take]; omega)
  rw [List.take_append_drop] at h1
  exact ⟨h1.1.symm, h1.2.1.symm, h1.2.2.symm⟩
set_option maxRecDepth 100000 in
set_option maxHeartbeats 8000000 in
theorem split_any (v : Value) (b : List Nat) (w : World) (hv : U8s w v b) (hl : b.length ≤ 100000) : Calls Try.prog 17 #[v] w (SplitF b w) := by
  obtain ⟨A0, c, rfl, hc, hc2⟩ := hv.form
  have HX := hid (Box3.new w 29 (.int .i64 0) (.int .i64 0) (.slice none 0 0))
  have BB := hid (box_low w (.int .i64 0) (.int .i64 0) (.slice none 0 0))
  have HV := hid hv
  have HS := hid (show SpSt w [] none 0 [] (w.alloc (.cells #[.int .i64 0, .int .i64 0, .slice none 0 0] 29)) from ⟨HX.out, BB.out, World.ownsRow_nil _ _ _ _, Bods.nil _, fun x hx => (by cases hx), fun x hx => (by cases hx)⟩)
  clear hv HX BB
  go_enter Try.func17, Try.ntmps17
  go_wp2
  go_loopw [5, 6] (fun v5 v6 wx => ∃ (k : Nat) (P : List Pc) (A : Option Addr) (cp : Nat) (q : List Value), k ≤ b.length ∧ P.length ≤ k ∧ v6 = .int .i64 k ∧ v5 = .slice A P.length cp ∧ Hid (Rest b k P) ∧ Hid (SpSt w P A cp q wx)) (fun _ v6 _ => b.length - (intOf v6).toNat)
  case atStart => exact ⟨0, [], none, 0, [], Nat.zero_le _, Nat.le_refl _, rfl, rfl, hid (rest_start b), HS⟩
  case round =>
    obtain ⟨k, P, A, cp, q, hk, hPk, rfl, rfl, HR, ST⟩ := hrel
    obtain ⟨c0, c1, c2⟩ := ST.out.box.cells
    have ff := ST.out.box.free
    by_cases hlt : b.length < k + 19
    · have z1 : (b.length : Int) - (k : Int) < 19 := by omega
      have E := hid (rest_short HR.out hlt)
      clear hlt
      go_wp2
      have r0 := (ST.out.box.set0 (.int .i64 0)).cells.1
      have r1 := ((ST.out.box.set0 (.int .i64 0)).set1 (.int .i64 0)).cells.2.1
      have r2 := (ST.out.box.laid (.int .i64 0) (.int .i64 0) (.slice none 0 0)).cells.2.2
      unfold three at r2
      refine bodyPost_ret (v := .tuple #[.slice A P.length cp, .int .i64 (k : Nat), .agg #[.int .i64 0, .int .i64 0, (.slice none 0 0)]]) (by simp [results, Try.results17, go_sem, r0, r1, r2]) rfl ?_
      exact split_end ST.out E.out (U8s.nil _) (off_none _ _ _)
    · have hk19 : k + 19 ≤ b.length := by omega
      obtain ⟨b0, off, x0, rfl, hb0, -, -, -⟩ := (HV.out).at_ (show 0 < b.length by omega)
      have VV := hid (HV.out.keep ST.out.low)
      have HLE := hid ST.out.low.size
      have z1 : 19 ≤ (b.length : Int) - (k : Int) := by omega
      have z2 : (k : Int) ≤ (k : Int) + 19 := by omega
      have z3 : (k : Int) + 19 ≤ (c : Int) := by omega
      have z0 : (0 : Int) ≤ (k : Int) := by omega
      have hck : ¬ c = k := by omega
      have hm := U8s.mid VV.out (i := k) (k := 19) (by omega) (by omega)
      have CJ := hid (judge_any (.slice (some ⟨b0, off + k, none⟩) 19 (c - k)) _ wr hm (by rw [List.length_take, List.length_drop]; omega))
      obtain ⟨e1, e2, e3⟩ := cut_all (b := b.drop k) (by rw [List.length_drop]; omega)
      unfold JudgeF JudgeW at CJ
      rw [e1, e2, e3] at CJ
      have hcode := headH_code (b.drop k)
      have HB := hid (fun hb => rest_bad HR.out hk19 hb)
      have HG := hid (fun hb => And.intro (fun hn => rest_wait HR.out hk19 hb hn) (And.intro (fun hn => rest_more HR.out hk19 hb hn) (headH_none hb)))
      clear hm hlt e1 e2 e3
      generalize headH (b.drop k) = H at CJ hcode HB HG
      obtain ⟨cd, sb, dd⟩ := H
      dsimp only at CJ hcode HB HG
      rcases hcode with rfl | rfl
      · obtain ⟨HW, HM, hnn, hn1, hn2, ht1, ht2⟩ := HG.out rfl
        obtain ⟨rfl, rfl⟩ : sb = 0 ∧ dd = [] := by simpa [noneF] using hnn
        simp only [if_true] at CJ
        clear hnn HB HG
        generalize lenH (b.drop k) = N at CJ HW HM hn1 hn2
        generalize typH (b.drop k) = Ty at CJ HM ht1 ht2
        by_cases hn : b.length < k + N
        · have E := hid (HW hn)
          have z7 : (b.length : Int) - (k : Int) < (N : Int) := by omega
          clear HM HW ht1 ht2 hn
          go_wp2_with (go_at_call 23; refine (CJ.out).mono ?_; rintro e x ⟨A1, k1, d1, rfl, hU, hO, hb⟩; have hb2 := box_low x (.int .i64 0) (.int .i64 0) (.slice A1 k1 d1); replace ST := hid ((ST.out.keep hb).keep hb2); have U1 := hid (And.intro (hU.keep hb2) (hO.less HLE.out)); have X1 := hid (Box3.new x 29 (.int .i64 0) (.int .i64 0) (.slice A1 k1 d1)); replace VV := hid ((VV.out.keep hb).keep hb2); clear hU hO hb hb2 c0 c1 c2 ff; obtain ⟨c0, c1, c2⟩ := ST.out.box.cells; have ff := ST.out.box.free; obtain ⟨p0, p1, p2⟩ := X1.out.cells)
          have r0 := (ST.out.box.set0 (.int .i64 0)).cells.1
          have r1 := ((ST.out.box.set0 (.int .i64 0)).set1 (.int .i64 0)).cells.2.1
          have r2 := (ST.out.box.laid (.int .i64 0) (.int .i64 0) (.slice none 0 0)).cells.2.2
          unfold three at r2
          refine bodyPost_ret (v := .tuple #[.slice A P.length cp, .int .i64 (k : Nat), .agg #[.int .i64 0, .int .i64 0, (.slice none 0 0)]]) (by simp [results, Try.results17, go_sem, r0, r1, r2]) rfl ?_
          exact split_end ST.out E.out (U8s.nil _) (off_none _ _ _)
        · have HE := hid (HM (by omega))
          have z7 : (N : Int) ≤ (b.length : Int) - (k : Int) := by omega
          have z10 : (k : Int) + 19 ≤ (k : Int) + (N : Int) := by omega
          have z11 : (k : Int) + (N : Int) ≤ (c : Int) := by omega
          have z12 : 0 ≤ (k : Int) + 19 := by omega
          have hbody : ((b.drop k).take N).drop 19 = (b.drop (k + 19)).take (N - 19) := by rw [List.drop_take, List.drop_drop]
          rw [hbody] at HE
          have HSD := hid (show Small ((b.drop (k + 19)).take (N - 19)) from (HV.out.2.drop _).take _)
          have w19 : IntKind.i64.wrap ((k : Int) + 19) = (k : Int) + 19 := IntWalk.i64_in _ (by omega)
          have wN : IntKind.i64.wrap ((k : Int) + (N : Int)) = (k : Int) + (N : Int) := IntWalk.i64_in _ (by omega)
          have t19 : ((k : Int) + 19).toNat = k + 19 := by omega
          have tN : ((k : Int) + (N : Int)).toNat = k + N := by omega
          have tkN : k + N - (k + 19) = N - 19 := by omega
          obtain ⟨i0, E0⟩ := elemFs
          have hmid := fun (h : k + 19 < c) W (hW : U8s W (.slice (some ⟨b0, off, none⟩) b.length c) b) => U8s.mid (w := W) hW (i := k + 19) (k := N - 19) (by omega) h
          have hDl : ((b.drop (k + 19)).take (N - 19)).length ≤ 100000 := by rw [List.length_take, List.length_drop]; omega
          clear HM HW hn hbody
          by_cases hck3 : c = k + 19
          focus
            have hN : N - 19 = 0 := by omega
            have hC : c - (k + 19) = 0 := by omega
            have CC := hid (fun W (_ : U8s W (.slice (some ⟨b0, off, none⟩) b.length c) b) => clone_any (.slice (some ⟨b0, off, none⟩) (N - 19) (c - (k + 19))) ((b.drop (k + 19)).take (N - 19)) W (by rw [hN, hC, List.take_zero]; exact u8_none W (some ⟨b0, off, none⟩) (by decide)) (by omega))
            have hck4 : (c = k + 19) = True := eq_true hck3
            clear hck3 hN hC
            generalize (b.drop (k + 19)).take (N - 19) = D at CC HE HSD
          rotate_left
          focus
            have CC := hid (fun W (h : U8s W (.slice (some ⟨b0, off, none⟩) b.length c) b) => clone_any _ ((b.drop (k + 19)).take (N - 19)) W (hmid (by omega) W h) (by omega))
            generalize (b.drop (k + 19)).take (N - 19) = D at CC HE HSD
          all_goals
            clear hmid hDl
            unfold Gives8 at CC
          go_upto_region 8 with (go_at_call 23; refine (CJ.out).mono ?_; rintro e x ⟨A1, k1, d1, rfl, hU, hO, hb⟩; have hb2 := box_low x (.int .i64 0) (.int .i64 0) (.slice A1 k1 d1); replace ST := hid ((ST.out.keep hb).keep hb2); have U1 := hid (And.intro (hU.keep hb2) (hO.less HLE.out)); have X1 := hid (Box3.new x 29 (.int .i64 0) (.int .i64 0) (.slice A1 k1 d1)); replace VV := hid ((VV.out.keep hb).keep hb2); clear hU hO hb hb2 c0 c1 c2 ff; obtain ⟨c0, c1, c2⟩ := ST.out.box.cells; have ff := ST.out.box.free; obtain ⟨p0, p1, p2⟩ := X1.out.cells)
          all_goals
            clear U1 X1 p0 p1 p2
            go_upto_region 9 with (have h := VV.out; go_at_call 20; refine (CC.out _ h).mono ?_; rintro e z ⟨A3, c3, rfl, ho, hb⟩; have U3 := hid (And.intro (U8s.of_own ho HSD.out) (And.intro (ST.out.fresh ho) (off_own (n := w.heap.size) ho ST.out.low.size))); replace ST := hid (ST.out.keep hb); clear ho hb h VV c0 c1 c2 ff)
            have HO := hid (own_keep ST.out.row ((Below.refl _ z).alloc (Nat.le_refl _) (.cells #[.int .i64 (Ty : Nat), .slice A3 D.length c3] 57)))
            have HRW := hid (row_frm z Ty (.slice A3 D.length c3) 57)
            have HLT := hid (show w.heap.size + 1 ≤ (z.alloc (.cells #[.int .i64 (Ty : Nat), .slice A3 D.length c3] 57)).heap.size from by have := ST.out.box.lt; simp; omega)
            go_wp2_with (at_builtin; refine wpList_append_row rfl (.tmp 46) (.tmp 50) rfl E0 (w.heap.size + 1) _ P.length (frmCells P q) rfl HO.out _ 1 [.int .i64 (Ty : Nat), .slice A3 D.length c3] rfl HRW.out (fun u hu => by simp only [List.mem_cons, List.not_mem_nil, or_false] at hu; rcases hu with rfl | rfl <;> rfl) (by unfold maxLen; omega) (by omega) HLT.out (P.length + 1) rfl ?_; intro A' c' W' hown hg hat hb; have ST2 := hid (sp_more ST.out U3.out.1 U3.out.2.1 U3.out.2.2 hown hg hat hb); clear hown hg hat hb)
            go_roundw
            case rel => exact ⟨_, _, A', c', _, by omega, by rw [List.length_append, List.length_singleton]; omega, by go_num, by rw [List.length_append, List.length_singleton], HE, ST2⟩
            case measure => simp [intOf]; omega
      · have E := hid (HB.out (by decide))
        clear HB HG
        go_upto_region 6 with (go_at_call 23; refine (CJ.out).mono ?_; rintro e x ⟨A1, k1, d1, rfl, hU, hO, hb⟩; have hb2 := box_low x (.int .i64 1) (.int .i64 sb) (.slice A1 k1 d1); replace ST := hid ((ST.out.keep hb).keep hb2); have U1 := hid (And.intro (hU.keep hb2) (hO.less HLE.out)); have X1 := hid (Box3.new x 29 (.int .i64 1) (.int .i64 sb) (.slice A1 k1 d1)); replace VV := hid ((VV.out.keep hb).keep hb2); clear hU hO hb hb2 c0 c1 c2 ff; obtain ⟨c0, c1, c2⟩ := ST.out.box.cells; have ff := ST.out.box.free; obtain ⟨p0, p1, p2⟩ := X1.out.cells)
        clear hck z0 z1 z2 z3
        generalize x.alloc (.cells #[.int .i64 1, .int .i64 sb, .slice A1 k1 d1] 29) = y at ST U1 X1 VV p0 p1 p2 c0 c1 c2 ff ⊢
        go_region
        go_wp2
        have r0 := (ST.out.box.set0 (.int .i64 1)).cells.1
        have r1 := ((ST.out.box.set0 (.int .i64 1)).set1 (.int .i64 sb)).cells.2.1
        have r2 := (ST.out.box.laid (.int .i64 1) (.int .i64 sb) (.slice A1 k1 d1)).cells.2.2
        unfold three at r2
        refine bodyPost_ret (v := .tuple #[.slice A P.length cp, .int .i64 (k : Nat), .agg #[.int .i64 1, .int .i64 sb, (.slice A1 k1 d1)]]) (by simp [results, Try.results17, go_sem, r0, r1, r2]) rfl ?_
        exact (split_end ST.out E.out U1.out.1 U1.out.2).drew
end Go.Proofs.Ytgeekckoepnccaa.Frm
