/- The program's Feed: what it gives of a stream that is not broken. -/
import Derived.Test.YtgeekckoepnccaaFrmStr
import Derived.Test.YtgeekckoepnccaaFrmSplit
namespace Go.Proofs.Ytgeekckoepnccaa.Frm
open Go.RowKit Mem Oct Att
open Go.Lib (hid)

/-- While a stream is fed: the result's box, the stream, its bytes. -/
structure FeSt (w : World) (base b : Nat) (F : Nat → Prop) (s : Value) (al : List Nat) (br : Bool) (W : World) : Prop where
  box : Box3 W w.heap.size 29 (.int .i64 0) (.int .i64 0) (.slice none 0 0)
  at_ : base ≤ b ∧ b < w.heap.size
  str : W.heap[b]? = some (.cells #[s, .bool br] 50)
  row : W.ownsRow base 5 1 s al.length (cells8 al)
  sm : Small al
  ne : s.ownBlock ≠ some b
  fb : F b
  on : Only F w W
  gr : ∀ g, s.ownBlock = some g → F g ∨ w.heap.size ≤ g
section
variable {w W W2 : World} {base b : Nat} {F : Nat → Prop} {s : Value} {al m : List Nat} {br : Bool}
theorem FeSt.keep (h : FeSt w base b F s al br W) (hb : Below W.heap.size W W2) : FeSt w base b F s al br W2 :=
  ⟨h.box.keep hb, h.at_, (hb.block b (Array.getElem?_eq_some_iff.1 h.str).1).trans h.str, own_keep h.row hb, h.sm, h.ne, h.fb, h.on.trans (Only.of hb), h.gr⟩
theorem FeSt.off (h : FeSt w base b F s al br W) : s.ownBlock ≠ some w.heap.size := fun e => by
  rcases h.row.2 with ⟨rfl, _⟩ | ⟨g, cap, cur, rfl, _, hg, _⟩
  · simp [Value.ownBlock] at e
  · simp only [Value.ownBlock, Option.some.injEq] at e
    rw [e, h.box.blk] at hg
    injection hg with hg
    injection hg with _ hg
    exact absurd hg (by decide)
/-- Another row of bytes is put in. -/
theorem FeSt.put {s2 : Value} (h : FeSt w base b F s al br W) (hne : w.heap.size ≠ b) (hrow : W.ownsRow base 5 1 s2 m.length (cells8 m)) (hm : Small m) (hn : s2.ownBlock ≠ some b) (hg : ∀ g, s2.ownBlock = some g → F g ∨ w.heap.size ≤ g) :
    FeSt w base b F s2 m br (W.setCell ⟨b, 0, none⟩ s2) :=
  ⟨h.box.far hne s2, h.at_, set0 s2 h.str, own_same hrow (fun g e => Below.heap_setCell _ _ _ _ (fun k => hn (by rw [e]; exact congrArg some k))), hm, hn, h.fb, h.on.set h.fb _, hg⟩
/-- Bytes are appended. -/
theorem FeSt.more {A1 : Option Addr} {c1 : Nat} (h : FeSt w base b F s al br W) (hm : Small m) (hown : W2.ownsRow base 5 1 (.slice A1 (al ++ m).length c1) (al ++ m).length (cells8 al ++ cells8 m)) (hg : W.grownBy W2 s.ownBlock)
    (hat : (Value.slice A1 (al ++ m).length c1).ownBlock = s.ownBlock ∨ (Value.slice A1 (al ++ m).length c1).ownBlock = some W.heap.size) :
    FeSt w base b F (.slice A1 (al ++ m).length c1) (al ++ m) br (W2.setCell ⟨b, 0, none⟩ (.slice A1 (al ++ m).length c1)) ∧ W2.heap[b]? = some (.cells #[s, .bool br] 50) := by
  have hlt := (Array.getElem?_eq_some_iff.1 h.str).1
  have hs := (hg.block b hlt (fun e => h.ne e.symm)).trans h.str
  have hsz := h.on.size
  have hne : (Value.slice A1 (al ++ m).length c1).ownBlock ≠ some b := by
    rcases hat with k | k
    · rw [k]; exact h.ne
    · rw [k]; intro e; injection e with e; omega
  have hbox : Box3 W2 w.heap.size 29 (.int .i64 0) (.int .i64 0) (.slice none 0 0) := h.box.below fun k hk => hg.block k (by rw [hk]; exact h.box.lt) (fun e => h.off (by rw [← e, hk]))
  have hon : Only F w W2 := ⟨hg.os.trans h.on.os, hg.tape.trans h.on.tape, hg.output.trans h.on.output, Nat.le_trans hsz hg.size, fun k hk hf => (hg.block k (Nat.lt_of_lt_of_le hk hsz) (fun e => by
    rcases h.gr k e.symm with q | q
    · exact hf q
    · omega)).trans (h.on.block k hk hf)⟩
  refine ⟨⟨hbox.far (Nat.ne_of_gt h.at_.2) _, h.at_, set0 _ hs, own_same (by rw [cells8_append]; exact hown) (fun g e => Below.heap_setCell _ _ _ _ (fun k => hne (by rw [e]; exact congrArg some k))), h.sm.append hm, hne, h.fb, hon.set h.fb _, fun g e => ?_⟩, hs⟩
  rcases hat with k | k
  · exact h.gr g (k ▸ e)
  · rw [e] at k
    injection k with k
    exact .inr (by omega)
/-- It is broken. -/
theorem FeSt.brk (h : FeSt w base b F s al br W) : FeSt w base b F (.slice none 0 0) [] true ((W.setCell ⟨b, 0, none⟩ (.slice none 0 0)).setCell ⟨b, 1, none⟩ (.bool true)) := by
  have hn : (Value.slice none 0 0).ownBlock ≠ some b := by simp [Value.ownBlock]
  have h1 := h.put (m := []) (s2 := .slice none 0 0) (Nat.ne_of_gt h.at_.2) (World.ownsRow_nil _ _ _ _) small_nil hn (fun g e => by simp [Value.ownBlock] at e)
  exact ⟨h1.box.far (Nat.ne_of_gt h.at_.2) _, h1.at_, set1 _ h1.str, World.ownsRow_nil _ _ _ _, small_nil, hn, h1.fb, h1.on.set h1.fb _, h1.gr⟩
end
/-- The messages that Split told, beside the stream: all that they are lies from n on. -/
structure FrH (n : Nat) (P : List Pc) (A : Option Addr) (c : Nat) (q : List Value) (vd : Value) (d : List Nat) (W : World) : Prop where
  row : W.ownsRow n 57 2 (.slice A P.length c) P.length (frmCells P q)
  bods : Bods W P q
  off : Off q (fun b => b < n)
  dat : U8s W vd d
  dof : Off [vd] (fun b => b < n)
theorem FrH.part {n : Nat} {P : List Pc} {A : Option Addr} {c : Nat} {q : List Value} {vd : Value} {d : List Nat} {W W2 : World} (h : FrH n P A c q vd d W) (hk : ∀ k, k < W.heap.size → n ≤ k → W2.heap[k]? = W.heap[k]?) (hs : W.heap.size ≤ W2.heap.size) : FrH n P A c q vd d W2 := by
  refine ⟨own_same2 h.row (fun g hg => hk g (h.row.lt g hg).2 (h.row.lt g hg).1), bods_part h.bods h.off (fun k h1 h2 => hk k h1 (Nat.le_of_not_lt h2)) hs, h.off, ?_, h.dof⟩
  have h1 := bods_part (Bods.one (s := (0, d)) h.dat) h.dof (fun k h1 h2 => hk k h1 (Nat.le_of_not_lt h2)) hs
  exact h1.2 0 (0, d) vd rfl rfl
theorem FrH.keep {n : Nat} {P : List Pc} {A : Option Addr} {c : Nat} {q : List Value} {vd : Value} {d : List Nat} {W W2 : World} (h : FrH n P A c q vd d W) (hb : Below W.heap.size W W2) : FrH n P A c q vd d W2 := h.part (fun k hk _ => hb.block k hk) hb.size
theorem FrH.set {n : Nat} {P : List Pc} {A : Option Addr} {c : Nat} {q : List Value} {vd : Value} {d : List Nat} {W : World} (h : FrH n P A c q vd d W) {b : Nat} (hb : b < n) (i : Nat) (u : Value) : FrH n P A c q vd d (W.setCell ⟨b, i, none⟩ u) :=
  h.part (fun k _ hn => Below.heap_setCell _ _ _ _ (by show k ≠ b; omega)) (by simp)
/-- The end: the result's box is laid, the stream stands. -/
theorem feed_end {w W : World} {base b n : Nat} {F : Nat → Prop} {s : Value} {al wl : List Nat} {br : Bool} {P : List Pc} {A A2 : Option Addr} {c k2 c2 E : Nat} {q : List Value} {code sub : Int} {d : List Nat} (h : FeSt w base b F s wl br W) (hf : FrH n P A c q (.slice A2 k2 c2) d W)
    (he : pcs al = (P, E, ⟨code, sub, d⟩)) (hn : w.heap.size < n) (hw : waitL (P, E, ⟨code, sub, d⟩) al = wl) (hbr : br = decide (code ≠ 0)) (hq : Off q (fun g => s.ownBlock = some g)) :
    FeedF StrT base (.pointer (some ⟨b, 0, none⟩)) al F w (.returned (.tuple #[.slice A P.length c, .agg #[.int .i64 code, .int .i64 sub, .slice A2 k2 c2]])) (three W w.heap.size (.int .i64 code) (.int .i64 sub) (.slice A2 k2 c2)) := by
  have ho := three_off W w.heap.size (.int .i64 code) (.int .i64 sub) (.slice A2 k2 c2)
  have h3 := hf.part (W2 := three W w.heap.size (.int .i64 code) (.int .i64 sub) (.slice A2 k2 c2)) (fun k _ h2 => ho.1 k (by omega)) ho.2
  unfold FeedF
  rw [he]
  refine ⟨A, c, q, A2, k2, c2, fun k => k = b ∨ s.ownBlock = some k, rfl, own_base h3.row (Nat.le_of_lt hn), h3.bods, fun x hx g off m c' e hm hg => ?_, h3.dat, h3.dof.less (Nat.le_of_lt hn), ⟨b, s, rfl, h.at_.1, (ho.1 b (Nat.ne_of_lt h.at_.2)).trans (by rw [← hbr]; exact h.str), ?_, ?_, h.ne, rfl⟩, ?_, fun k hk => ?_⟩
  · rcases hg with hg | rfl | hg
    · exact hf.off x hx g off m c' e hm (by omega)
    · exact hf.off x hx g off m c' e hm (by have := h.at_.2; omega)
    · exact hq x hx g off m c' e hm hg
  · rw [hw]
    exact own_same h.row (fun g hg => ho.1 g (fun e => h.off (by rw [hg, e])))
  · rw [hw]; exact h.sm
  · exact ⟨h.on.os, h.on.tape, h.on.output, Nat.le_trans h.on.size ho.2, fun k hk hf2 => (ho.1 k (Nat.ne_of_lt hk)).trans (h.on.block k hk hf2)⟩
  · rcases hk with rfl | hk
    · exact .inl h.fb
    · exact h.gr k hk
theorem feed_drew {base : Nat} {v : Value} {al : List Nat} {F : Nat → Prop} {w W : World} {e : Ending} (h : FeedF StrT base v al F w e W) : FeedF StrT base v al F w e W.drew := by
  obtain ⟨A, c, q, A2, k2, c2, F', h1, h2, h3, h4, h5, h6, h7, h8, h9⟩ := h
  have hd : Below W.heap.size W W.drew := (Below.refl _ _).drew
  exact ⟨A, c, q, A2, k2, c2, F', h1, own_keep h2 hd, h3.keep hd, h4, h5.keep hd, h6, str_keep h7 (fun _ _ => rfl) (Nat.le_refl _), h8.drew, h9⟩
set_option maxRecDepth 100000 in
set_option maxHeartbeats 8000000 in
theorem feed_any {base : Nat} {v x : Value} {l m : List Nat} {F : Nat → Prop} {w : World} (h : StrT w base v l false F) (hx : U8s w x m) (hl : l.length ≤ 10000) (hm : m.length ≤ 1000) (hbase : base ≤ w.heap.size) :
    Calls Try.prog 9 #[v, x] w (FeedF StrT base v (l ++ m) F w) := by
  obtain ⟨b, s, rfl, h2, h3, h4, h5, h6, hF⟩ := h
  obtain ⟨A0, cp0, rfl⟩ := own_form h4
  obtain ⟨Ax, cpx, rfl, -, -⟩ := hx.form
  obtain ⟨i0, E0⟩ := elem8
  have hlt : b < w.heap.size := (Array.getElem?_eq_some_iff.1 h3).1
  have hal := box_low w (.int .i64 0) (.int .i64 0) (.slice none 0 0)
  have S0 := hid (show FeSt w base b F (.slice A0 l.length cp0) l false (w.alloc (.cells #[.int .i64 0, .int .i64 0, .slice none 0 0] 29)) from
    ⟨Box3.new w _ _ _ _, ⟨h2, hlt⟩, (hal.block b hlt).trans h3, own_keep h4 hal, h5, h6, by rw [hF]; exact .inl rfl, Only.of hal, fun g hg => .inl (by rw [hF]; exact .inr hg)⟩)
  have HX := hid (hx.keep hal)
  have HBS := hid (show base ≤ (w.alloc (.cells #[.int .i64 0, .int .i64 0, .slice none 0 0] 29)).heap.size from Nat.le_trans hbase hal.size)
  have HB0 := hid hbase
  obtain ⟨c0, c1⟩ := cell0 S0.out.str
  obtain ⟨f0, f1⟩ := free0 S0.out.str
  have HN := hid (show (l ++ m).length = l.length + m.length from List.length_append)
  have HMO := hid (fun A1 c1 W2 hown hg hat => @FeSt.more w _ W2 base b F _ l m false A1 c1 S0.out hx.2 hown hg hat)
  have CS := hid (fun v W (h : U8s W v (l ++ m)) => split_any v (l ++ m) W h (by rw [List.length_append]; omega))
  have HAL := hid (show (l ++ m).length ≤ 100000 by rw [List.length_append]; omega)
  clear h2 h3 h4 h5 h6 hF hx hal hbase
  generalize l ++ m = a at HN HMO CS HAL ⊢
  have HEND := hid (pcs_end a)
  unfold SplitF at CS
  obtain ⟨R, hR⟩ : ∃ R, pcs a = R := ⟨_, rfl⟩
  rw [hR] at CS HEND
  obtain ⟨P, E, ⟨cd, sb, d⟩⟩ := R
  have HP := hid hR
  clear hR
  dsimp only at CS HEND
  go_enter Try.func9, Try.ntmps9
  go_upto_region 5 with (first
    | (at_builtin; refine wpList_append_row rfl (.tmp 22) (.tmp 23) rfl E0 base _ l.length (cells8 l) rfl S0.out.row _ m.length (cells8 m) rfl HX.out.1 (ones8 _) (by unfold maxLen; omega) (by omega) HBS.out a.length HN.out.symm ?_; intro A1 cp1 w2 hown hg hat hb; have HM := HMO.out A1 cp1 w2 hown hg hat; clear c0 c1 f0 f1; obtain ⟨c0, c1⟩ := cell0 HM.2; obtain ⟨f0, f1⟩ := free0 HM.2; have S1 := hid HM.1; clear hown hg hat hb HM S0 HMO)
    | (have h := S1.out; go_at_call 17; refine (CS.out _ _ (U8s.of_own h.row h.sm)).mono ?_; rintro e y ⟨Af, cf, q, An, kn, cn, rfl, hrow, hbd, hO, hd, hdO, hb⟩; have hb2 := box_low y (.int .i64 cd) (.int .i64 sb) (.slice An kn cn); have S2 := hid ((h.keep hb).keep hb2); obtain ⟨n, hn1, hn2, hn3⟩ : ∃ n, w.heap.size < n ∧ FrH n P Af cf q (.slice An kn cn) d y ∧ Off q (fun g => (Value.slice A1 a.length cp1).ownBlock = some g) := ⟨_, h.box.lt, ⟨hrow, hbd, hO, hd, hdO⟩, fun z hz g off mm cc e hm hg => hO z hz g off mm cc e hm (h.row.lt g hg).2⟩; have N3 := hid (Nat.lt_of_lt_of_le h.box.lt hb.size); have H2 := hid (hn2.keep hb2); have N2 := hid hn1; have QO := hid hn3; have X2 := hid (Box3.new y 29 (.int .i64 cd) (.int .i64 sb) (.slice An kn cn)); clear h hrow hbd hO hd hdO hb hb2 hn1 hn2 hn3 c0 c1 f0 f1 S1))
  generalize y.alloc (.cells #[.int .i64 cd, .int .i64 sb, .slice An kn cn] 29) = z at S2 H2 X2 ⊢
  clear HX HBS CS HN
  obtain ⟨p0, p1, p2⟩ := X2.out.cells
  obtain ⟨d0, d1⟩ := cell0 S2.out.str
  obtain ⟨f0, f1⟩ := free0 S2.out.str
  have hyz := X2.out.lt
  have hwy := N3.out
  have hwb : b ≠ y.heap.size := by omega
  have HNE := hid (show y.heap.size ≠ w.heap.size by omega)
  by_cases hcd : cd = 0
  rotate_left
  focus
    have y1 : (cd != 0) = true := by simp [hcd]
    have HW := hid (show waitL (P, E, ⟨cd, sb, d⟩) a = [] from if_pos hcd)
    have HBR := hid (show true = decide (cd ≠ 0) by simp [hcd])
    clear hcd
    go_upto_region 9 with fail
    have ST := hid S2.out.brk
    have HH := hid ((H2.out.set (show b < n by have := N2.out; omega) 0 (.slice none 0 0)).set (show b < n by have := N2.out; omega) 1 (.bool true))
    have XX := hid ((X2.out.far hwb.symm (i := 0) (.slice none 0 0)).far hwb.symm (i := 1) (.bool true))
    have QQ := hid (show Off q (fun g => (Value.slice none 0 0).ownBlock = some g) from fun x hx g off m c e hm hg => by simp [Value.ownBlock] at hg)
    clear S2 H2 X2 QO d0 d1 f0 f1 p0 p1 p2 hyz hwy hwb y1
    generalize (z.setCell ⟨b, 0, none⟩ (.slice none 0 0)).setCell ⟨b, 1, none⟩ (.bool true) = zz at ST HH XX ⊢
  rotate_left
  have y1 : (cd != 0) = false := by simp [hcd]
  have HBR := hid (show false = decide (cd ≠ 0) by simp [hcd])
  have HW := hid (show waitL (P, E, ⟨cd, sb, d⟩) a = a.drop E from if_neg (by simp [hcd]))
  clear hcd
  by_cases hE : 0 < E
  focus
    have z1 : (E : Int) > 0 := by omega
    have z0 : (0 : Int) ≤ (E : Int) := by omega
    have HU := hid (U8s.of_own S2.out.row S2.out.sm)
    obtain ⟨b1, off1, x1, rfl, -, -, -, -⟩ := HU.out.at_ (show 0 < a.length by have := HEND.out; omega)
    have hcp : a.length ≤ cp1 := by
      obtain ⟨_, _, e, h, _⟩ := HU.out.form
      injection e with _ _ e
      omega
    have z2 : (E : Int) ≤ (a.length : Int) := by have := HEND.out; omega
    have z3 : (a.length : Int) ≤ (cp1 : Int) := by omega
    have HSD := hid (S2.out.sm.drop E)
    by_cases hc : cp1 = E
    focus
      have hc2 : (cp1 = E) = True := eq_true hc
      have CC := hid (clone_any (.slice (some ⟨b1, off1, none⟩) (a.length - E) (cp1 - E)) (a.drop E) z (by rw [show a.length - E = 0 by omega, show cp1 - E = 0 by omega, List.drop_of_length_le (by omega)]; exact u8_none z _ (by decide)) (by rw [List.length_drop]; have := HAL.out; omega))
    rotate_left
    focus
      have hc2 : (cp1 = E) = False := eq_false hc
      have CC := hid (clone_any (.slice (some ⟨b1, off1 + E, none⟩) (a.length - E) (cp1 - E)) (a.drop E) z (by
        have h1 := U8s.mid HU.out (i := E) (k := a.length - E) (by omega) (by omega)
        rwa [List.take_of_length_le (by rw [List.length_drop]; omega)] at h1) (by rw [List.length_drop]; have := HAL.out; omega))
    all_goals
      clear hc HU hcp
      unfold Gives8 at CC
      generalize a.drop E = D at CC HSD HW
      go_upto_region 9 with (go_at_call 20; refine CC.out.mono ?_; rintro e x3 ⟨A3, c3, rfl, ho, hb⟩; have S3 := hid (S2.out.keep hb); have H3 := hid (H2.out.keep hb); have X3 := hid (X2.out.keep hb); have HO := hid ho; have QQ := hid (show Off q (fun g => (Value.slice A3 D.length c3).ownBlock = some g) from fun x hx g off m c e hm hg => by have h1 := bods_at H2.out.bods hx e hm; have h2 := (ho.lt g hg).1; omega); clear ho hb d0 d1 f0 f1 p0 p1 p2; obtain ⟨d0, d1⟩ := cell0 S3.out.str; obtain ⟨f0, f1⟩ := free0 S3.out.str)
      have ST := hid (S3.out.put (by omega) (own_base HO.out (Nat.le_trans HB0.out S2.out.on.size)) HSD.out (fun e => by have := (HO.out.lt _ e).1; omega) (fun g hg => .inr (by have := (HO.out.lt g hg).1; omega)))
      have HH := hid (H3.out.set (show b < n by have := N2.out; omega) 0 (.slice A3 D.length c3))
      have XX := hid (X3.out.far hwb.symm (i := 0) (.slice A3 D.length c3))
      clear S2 H2 X2 QO d0 d1 f0 f1 hyz hwy hwb y1 z0 z1 z2 z3 hc2 S3 H3 X3 HO
      generalize x3.setCell ⟨b, 0, none⟩ (.slice A3 D.length c3) = zz at ST HH XX ⊢
  rotate_left 2
  focus
    obtain rfl : E = 0 := by omega
    rw [List.drop_zero] at HW
    go_upto_region 9 with fail
    have ST := hid S2.out
    have HH := hid H2.out
    have XX := hid X2.out
    have QQ := hid QO.out
    clear S2 H2 X2 QO d0 d1 f0 f1 p0 p1 p2 hyz hwy hwb y1
  all_goals
    obtain ⟨p0, p1, p2⟩ := XX.out.cells
    obtain ⟨c0, c1, c2⟩ := ST.out.box.cells
    have ff := ST.out.box.free
    go_region
    all_goals go_wp2
    all_goals
      have r0 := (ST.out.box.set0 (.int .i64 cd)).cells.1
      have r1 := ((ST.out.box.set0 (.int .i64 cd)).set1 (.int .i64 sb)).cells.2.1
      have r2 := (ST.out.box.laid (.int .i64 cd) (.int .i64 sb) (.slice An kn cn)).cells.2.2
      unfold three at r2
      refine bodyPost_ret (v := .tuple #[.slice Af P.length cf, .agg #[.int .i64 cd, .int .i64 sb, .slice An kn cn]]) (by simp [results, Try.results9, go_sem, r0, r1, r2]) rfl ?_
      exact feed_drew (feed_end ST.out HH.out HP.out N2.out HW.out HBR.out QQ.out)
end Go.Proofs.Ytgeekckoepnccaa.Frm
