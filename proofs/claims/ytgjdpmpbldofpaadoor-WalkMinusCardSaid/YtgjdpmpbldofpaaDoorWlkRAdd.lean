/- The reference's Add: parts with one more. -/
import Derived.Test.YtgjdpmpbldofpaaDoorWlkREnds
import Derived.Test.YtgjdpmpbldofpaaDoorPfxSix
import Derived.BigQuiet
import Derived.Deep.RegionHeld3
import Derived.Deep.DrawnRows
namespace Go.Proofs.YtgjdpmpbldofpaaDoor.Wlk
open Go.RowKit Mem Pfx PR Oct

theorem own_set {W : World} {base : Nat} {e : TypeId} {size : Nat} {v : Value} {n : Nat} {xs : List Value} (h : W.ownsRow base e size v n xs) {b i : Nat} (hb : b < base) (u : Value) : (W.setCell ⟨b, i, none⟩ u).ownsRow base e size v n xs := by
  obtain ⟨h1, h2⟩ := h
  refine ⟨h1, ?_⟩
  rcases h2 with h2 | ⟨g, cap, cur, hv, hg, hh, r⟩
  · exact .inl h2
  · refine .inr ⟨g, cap, cur, hv, hg, ?_, r⟩
    have hlt : g < W.heap.size := (Array.getElem?_eq_some_iff.1 hh).1
    exact ((Only.set (F := fun k => k = b) (i := i) (Only.refl _ W) rfl u).block g hlt (by omega)).trans hh
theorem own_snocT {W : World} {base n : Nat} {v : Value} {l : List Pt} {a b : Int} {p : Pt} (ha : (p.A : Int) = a) (hb : (p.B : Int) = b) (h : W.ownsRow base 42 2 v n (tcells l ++ [.int .i64 a, .int .i64 b])) : W.ownsRow base 42 2 v n (tcells (l ++ [p])) := by
  rw [tcells_append]
  subst ha
  subst hb
  exact h
theorem cutT_at {w : World} {A : Option Addr} {n c k : Nat} {l : List Pt} (h : Row w 2 (.slice A n c) n (tcells l)) (hk : k ≤ n) :
    Row w 2 (.slice (if c = k then A else A.map (fun x => x.add (k * 2))) (n - k) (c - k)) (n - k) (tcells (l.drop k)) := by
  have := h.cut hk
  rw [tcells_drop] at this
  exact this
theorem cutT_at2 {w : World} {b off n c k : Nat} {l : List Pt} (h : Row w 2 (.slice (some ⟨b, off, none⟩) n c) n (tcells l)) (hk : k ≤ n) :
    Row w 2 (.slice (if c = k then some ⟨b, off, none⟩ else some ⟨b, off + k * 2, none⟩) (n - k) (c - k)) (n - k) (tcells (l.drop k)) := by
  have := cutT_at h hk
  have e : (if c = k then (some ⟨b, off, none⟩ : Option Addr) else (some (⟨b, off, none⟩ : Addr)).map (fun x => x.add (k * 2))) = if c = k then some ⟨b, off, none⟩ else some ⟨b, off + k * 2, none⟩ := by
    split
    · rfl
    · simp only [Option.map]
      unfold Addr.add
      split
      · rename_i h0; rw [h0]; rfl
      · rfl
  rwa [e] at this
theorem one_blkT {W : World} {B : Nat} {t : TypeId} {x y : Value} (h : W.heap[B]? = some (.cells #[x, y] t (0, 0))) : Row W 2 (.slice (some ⟨B, 0, none⟩) 1 1) 1 [x, y] :=
  Row.of_own (base := 0) (e := t) ⟨rfl, .inr ⟨B, 1, #[x, y], rfl, Nat.zero_le _, h, Nat.le_refl _, by decide, rfl, rfl⟩⟩
theorem own_insT {W : World} {base base' n : Nat} {v : Value} {a b : List Pt} {p : Pt} (h : W.ownsRow base' 42 2 v n ([] ++ tcells a ++ [.int .i64 p.A, .int .i64 p.B] ++ tcells b)) (hb : base ≤ base') : W.ownsRow base 42 2 v n (tcells (a ++ p :: b)) := by
  have e : tcells (a ++ p :: b) = [] ++ tcells a ++ [.int .i64 p.A, .int .i64 p.B] ++ tcells b := by
    rw [tcells_append, tcells_cons]
    simp [tcell]
  rw [e]
  exact own_base h hb
theorem fold_take {s : List Pt × Pt} {l : List Pt} {j : Nat} {p : Pt} (h : l[j]? = some p) : (l.take (j + 1)).foldl stepA s = stepA ((l.take j).foldl stepA s) p := by
  rw [List.take_add_one, h, List.foldl_append]
  rfl
def Low (p : Pt) : Prop := p.A ≤ 4294967296 ∧ p.B ≤ 4294967296
set_option maxRecDepth 100000 in
set_option maxHeartbeats 16000000 in
theorem radd_any (v : Value) (l : List Pt) (x : Pt) (w : World) (hv : Pts w v l) (hl : l.length ≤ 100000) (hlow : ∀ p ∈ l, Low p) (hx : Low x) : Calls Tryd.prog 21 #[v, .agg #[.int .i64 x.A, .int .i64 x.B]] w (GivesT (addT l x) w) := by
  obtain ⟨i0, E0⟩ := elemT
  obtain ⟨A, c, rfl, hlc, hc⟩ := hv.form
  have HV := Go.Lib.hid hv
  have HL := Go.Lib.hid hlow
  have HX := Go.Lib.hid hx
  clear hv hlow hx
  obtain ⟨c0, c1⟩ := cells_two w (.int .i64 (x.A : Int)) (.int .i64 (x.B : Int)) 42
  have hb := (below_new2 w (.cells #[.int .i64 (x.A : Int), .int .i64 (x.B : Int)] 42) (.cells #[] 42))
  have HB := Go.Lib.hid hb
  have H0 := Go.Lib.hid (show ((w.alloc (.cells #[.int .i64 (x.A : Int), .int .i64 (x.B : Int)] 42)).alloc (.cells #[] 42)).ownsRow (w.heap.size + 1) 42 2 (.slice (some ⟨w.heap.size + 1, 0, none⟩) 0 0) 0 (tcells []) from own_blkT (Nat.le_refl _) (by simpa using heap_alloc_new (w.alloc (.cells #[.int .i64 (x.A : Int), .int .i64 (x.B : Int)] 42)) (.cells #[] 42)))
  clear hb
  go_enter Tryd.func21, Tryd.ntmps21
  go_wp2
  go_loopw [5, 6] (fun v5 v6 wx => ∃ (i m : Nat) (B : Option Addr) (d : Nat) (o : List Pt) (z : Pt), i ≤ l.length ∧ m ≤ i ∧ v6 = .int .i64 i ∧ v5 = .slice B m d ∧ Hid ((l.take i).foldl stepA ([], x) = (o, z)) ∧ Hid (m = o.length) ∧ Hid (Low z) ∧ Hid (wx.ownsRow (w.heap.size + 1) 42 2 (.slice B m d) m (tcells o)) ∧ (wx.cell? ⟨w.heap.size, 0, none⟩ = some (.int .i64 z.A) ∧ wx.cell? ⟨w.heap.size, 1, none⟩ = some (.int .i64 z.B)) ∧ (wx.frozen? ⟨w.heap.size, 0, none⟩ = false ∧ wx.frozen? ⟨w.heap.size, 1, none⟩ = false) ∧ Hid (Below w.heap.size w wx) ∧ Hid (w.heap.size + 1 ≤ wx.heap.size)) (fun _ v6 _ => l.length - (intOf v6).toNat)
  case atStart => exact ⟨0, 0, _, 0, [], x, Nat.zero_le _, Nat.le_refl _, rfl, rfl, Go.Lib.hid rfl, Go.Lib.hid rfl, HX, H0, ⟨by simp, by simp⟩, ⟨by simp, by simp⟩, HB, Go.Lib.hid (by simp)⟩
  case round =>
    obtain ⟨i, m, B, d, o, z, hi, hmi, rfl, rfl, hF, hm, hz, hown, ⟨d0, d1⟩, ⟨f0, f1⟩, hb, hsz⟩ := hrel
    by_cases hlt : i < l.length
    · obtain ⟨p, hp⟩ : ∃ p, l[i]? = some p := ⟨_, List.getElem?_eq_getElem hlt⟩
      have hlp := HL.out p (List.mem_of_getElem? hp)
      obtain ⟨bl, off, rfl, hbl, k0, k1⟩ := (HV.out).at_ hp
      have e0 := (hb.out.cell (p := ⟨bl, off + i * 2, none⟩) hbl).trans k0
      have e1 := (hb.out.cell (p := ⟨bl, off + i * 2 + 1, none⟩) hbl).trans k1
      have HKC := Go.Lib.hid (fun (W : World) (h : Below w.heap.size w W) => (⟨(h.cell (p := ⟨bl, off + i * 2, none⟩) hbl).trans k0, (h.cell (p := ⟨bl, off + i * 2 + 1, none⟩) hbl).trans k1⟩ : W.cell? ⟨bl, off + i * 2, none⟩ = some (.int .i64 p.A) ∧ W.cell? ⟨bl, off + i * 2 + 1, none⟩ = some (.int .i64 p.B)))
      have z0 : (0 : Int) ≤ (i : Int) := by omega
      have z1 : (i : Int) < (l.length : Int) := by omega
      have hT := fold_take (s := ([], x)) hp
      rw [hF.out] at hT
      have hlz := hz.out
      unfold Low at hlp hlz
      have hm4 : m ≤ 100000 := by omega
      obtain ⟨pA, hpA⟩ : ∃ a : Int, (p.A : Int) = a := ⟨_, rfl⟩
      obtain ⟨pB, hpB⟩ : ∃ a : Int, (p.B : Int) = a := ⟨_, rfl⟩
      obtain ⟨zA, hzA⟩ : ∃ a : Int, (z.A : Int) = a := ⟨_, rfl⟩
      obtain ⟨zB, hzB⟩ : ∃ a : Int, (z.B : Int) = a := ⟨_, rfl⟩
      have b0 : 0 ≤ pA ∧ pA ≤ 4294967296 := by omega
      have b1 : 0 ≤ pB ∧ pB ≤ 4294967296 := by omega
      have b2 : 0 ≤ zA ∧ zA ≤ 4294967296 := by omega
      have b3 : 0 ≤ zB ∧ zB ≤ 4294967296 := by omega
      obtain ⟨b00, b01⟩ := b0
      obtain ⟨b10, b11⟩ := b1
      obtain ⟨b20, b21⟩ := b2
      obtain ⟨b30, b31⟩ := b3
      rw [hpA] at e0 HKC
      rw [hpB] at e1 HKC
      rw [hzA] at d0
      rw [hzB] at d1
      have z1' : i + 1 ≤ l.length := hlt
      clear k0 k1 hp hF hlt
      have hbw := Go.Lib.hid hbl
      have BX := hb
      have OX := hown
      have HSZ := hsz
      clear hb hown hsz
      by_cases h1 : pB + 1 < zA
      · have HS := Go.Lib.hid (hT.trans (show stepA (o, z) p = (o ++ [p], z) from if_pos (.inl (by dsimp only; omega))))
        have g1 : decide (pB + 1 < zA) = true := decide_eq_true h1
        have HP := Go.Lib.hid (And.intro hpA hpB)
        have HZ := Go.Lib.hid (And.intro hzA hzB)
        clear hT hpA hpB hzA hzB hlp hlz hbl
        go_wp2
        go_quiet (fail)
        have BXa := Go.Lib.hid (BX.out.trans ((Mem.below_drewN wr nq).mono BX.out.size))
        have OXa := Go.Lib.hid (own_keep OX.out (Mem.below_drewN wr nq))
        have HSZa := Go.Lib.hid (show w.heap.size + 1 ≤ (wr.drewN nq).heap.size from Nat.le_trans HSZ.out (Mem.below_drewN wr nq).size)
        obtain ⟨e0x, e1x⟩ := HKC.out _ BXa.out
        replace f0 := keepsF (Mem.below_drewN wr nq) d0 f0
        replace f1 := keepsF (Mem.below_drewN wr nq) d1 f1
        replace d0 := keeps (Mem.below_drewN wr nq) d0
        replace d1 := keeps (Mem.below_drewN wr nq) d1
        clear BX OX HSZ e0 e1
        generalize wr.drewN nq = W at BXa OXa HSZa d0 d1 f0 f1 e0x e1x ⊢
        have BX := BXa
        have OX := OXa
        have HSZ := HSZa
        have e0 := e0x
        have e1 := e1x
        clear BXa OXa HSZa e0x e1x
        go_wp2_with (at_builtin; refine wpList_append_row rfl (.tmp 35) (.tmp 40) rfl E0 (w.heap.size + 1) _ m (tcells o) rfl ?_ _ 1 [.int .i64 pA, .int .i64 pB] rfl ?_ ?_ (by unfold maxLen; omega) (by omega) ?_ (m + 1) rfl ?_; exact own_keep OX.out ((Below.refl _ _).alloc (Nat.le_refl _) _); exact row_new2 _ _ _ _; exact ones2 _ _ _ _; exact Nat.le_trans HSZ.out (by simp); intro A1 c1 w4 hown1 hg1 hat1 hb1; have O4 := Go.Lib.hid hown1; have B4 := Go.Lib.hid (((Below.refl _ W).alloc HSZ.out (.cells #[.int .i64 pA, .int .i64 pB] 42)).trans hb1); clear hown1 hg1 hat1 hb1)
        go_roundw
        case rel => exact ⟨i + 1, m + 1, A1, c1, o ++ [p], z, z1', by omega, by go_num, rfl, HS, Go.Lib.hid (by rw [hm.out, List.length_append]; rfl), hz, Go.Lib.hid (own_snocT HP.out.1 HP.out.2 O4.out), ⟨by rw [HZ.out.1]; exact (B4.out.cell (p := ⟨w.heap.size, 0, none⟩) (Nat.lt_succ_self _)).trans d0, by rw [HZ.out.2]; exact (B4.out.cell (p := ⟨w.heap.size, 1, none⟩) (Nat.lt_succ_self _)).trans d1⟩, ⟨(B4.out.frozen (p := ⟨w.heap.size, 0, none⟩) (Nat.lt_succ_self _)).trans f0, (B4.out.frozen (p := ⟨w.heap.size, 1, none⟩) (Nat.lt_succ_self _)).trans f1⟩, Go.Lib.hid (BX.out.trans (B4.out.mono (Nat.le_succ _))), Go.Lib.hid (Nat.le_trans HSZ.out B4.out.size)⟩
        case measure => simp [intOf]; omega
      have g1 : decide (pB + 1 < zA) = false := decide_eq_false h1
      by_cases h2 : zB + 1 < pA
      · have HS := Go.Lib.hid (hT.trans (show stepA (o, z) p = (o ++ [p], z) from if_pos (.inr (by dsimp only; omega))))
        have g2 : decide (zB + 1 < pA) = true := decide_eq_true h2
        have HP := Go.Lib.hid (And.intro hpA hpB)
        have HZ := Go.Lib.hid (And.intro hzA hzB)
        clear hT hpA hpB hzA hzB hlp hlz hbl
        go_wp2
        go_quiet (fail)
        have BXa := Go.Lib.hid (BX.out.trans ((Mem.below_drewN wr nq).mono BX.out.size))
        have OXa := Go.Lib.hid (own_keep OX.out (Mem.below_drewN wr nq))
        have HSZa := Go.Lib.hid (show w.heap.size + 1 ≤ (wr.drewN nq).heap.size from Nat.le_trans HSZ.out (Mem.below_drewN wr nq).size)
        obtain ⟨e0x, e1x⟩ := HKC.out _ BXa.out
        replace f0 := keepsF (Mem.below_drewN wr nq) d0 f0
        replace f1 := keepsF (Mem.below_drewN wr nq) d1 f1
        replace d0 := keeps (Mem.below_drewN wr nq) d0
        replace d1 := keeps (Mem.below_drewN wr nq) d1
        clear BX OX HSZ e0 e1
        generalize wr.drewN nq = W at BXa OXa HSZa d0 d1 f0 f1 e0x e1x ⊢
        have BX := BXa
        have OX := OXa
        have HSZ := HSZa
        have e0 := e0x
        have e1 := e1x
        clear BXa OXa HSZa e0x e1x
        go_wp2_with (at_builtin; refine wpList_append_row rfl (.tmp 35) (.tmp 40) rfl E0 (w.heap.size + 1) _ m (tcells o) rfl ?_ _ 1 [.int .i64 pA, .int .i64 pB] rfl ?_ ?_ (by unfold maxLen; omega) (by omega) ?_ (m + 1) rfl ?_; exact own_keep OX.out ((Below.refl _ _).alloc (Nat.le_refl _) _); exact row_new2 _ _ _ _; exact ones2 _ _ _ _; exact Nat.le_trans HSZ.out (by simp); intro A1 c1 w4 hown1 hg1 hat1 hb1; have O4 := Go.Lib.hid hown1; have B4 := Go.Lib.hid (((Below.refl _ W).alloc HSZ.out (.cells #[.int .i64 pA, .int .i64 pB] 42)).trans hb1); clear hown1 hg1 hat1 hb1)
        go_roundw
        case rel => exact ⟨i + 1, m + 1, A1, c1, o ++ [p], z, z1', by omega, by go_num, rfl, HS, Go.Lib.hid (by rw [hm.out, List.length_append]; rfl), hz, Go.Lib.hid (own_snocT HP.out.1 HP.out.2 O4.out), ⟨by rw [HZ.out.1]; exact (B4.out.cell (p := ⟨w.heap.size, 0, none⟩) (Nat.lt_succ_self _)).trans d0, by rw [HZ.out.2]; exact (B4.out.cell (p := ⟨w.heap.size, 1, none⟩) (Nat.lt_succ_self _)).trans d1⟩, ⟨(B4.out.frozen (p := ⟨w.heap.size, 0, none⟩) (Nat.lt_succ_self _)).trans f0, (B4.out.frozen (p := ⟨w.heap.size, 1, none⟩) (Nat.lt_succ_self _)).trans f1⟩, Go.Lib.hid (BX.out.trans (B4.out.mono (Nat.le_succ _))), Go.Lib.hid (Nat.le_trans HSZ.out B4.out.size)⟩
        case measure => simp [intOf]; omega
      have g2 : decide (zB + 1 < pA) = false := decide_eq_false h2
      have HS := Go.Lib.hid (hT.trans (show stepA (o, z) p = (o, ⟨min z.A p.A, max z.B p.B⟩) from if_neg (by dsimp only; omega)))
      by_cases h3 : pA < zA
      · by_cases h4 : zB < pB
        · have g3 : decide (pA < zA) = true := decide_eq_true h3
          have g4 : decide (zB < pB) = true := decide_eq_true h4
          have HZA := Go.Lib.hid (show ((min z.A p.A : Nat) : Int) = pA by omega)
          have HZB := Go.Lib.hid (show ((max z.B p.B : Nat) : Int) = pB by omega)
          have HLZ := Go.Lib.hid (show Low ⟨min z.A p.A, max z.B p.B⟩ by unfold Low; dsimp only; omega)
          clear hT hpA hpB hzA hzB hlp hlz hbl
          go_wp2
          go_quiet (fail)
          have BXa := Go.Lib.hid (BX.out.trans ((Mem.below_drewN wr nq).mono BX.out.size))
          have OXa := Go.Lib.hid (own_keep OX.out (Mem.below_drewN wr nq))
          have HSZa := Go.Lib.hid (show w.heap.size + 1 ≤ (wr.drewN nq).heap.size from Nat.le_trans HSZ.out (Mem.below_drewN wr nq).size)
          obtain ⟨e0x, e1x⟩ := HKC.out _ BXa.out
          replace f0 := keepsF (Mem.below_drewN wr nq) d0 f0
          replace f1 := keepsF (Mem.below_drewN wr nq) d1 f1
          replace d0 := keeps (Mem.below_drewN wr nq) d0
          replace d1 := keeps (Mem.below_drewN wr nq) d1
          clear BX OX HSZ e0 e1
          generalize wr.drewN nq = W at BXa OXa HSZa d0 d1 f0 f1 e0x e1x ⊢
          have BX := BXa
          have OX := OXa
          have HSZ := HSZa
          have e0 := e0x
          have e1 := e1x
          clear BXa OXa HSZa e0x e1x
          go_wp2_with fail
          go_quiet (fail)
          have BXb := Go.Lib.hid (BX.out.trans ((Mem.below_drewN W nq).mono BX.out.size))
          have OXb := Go.Lib.hid (own_keep OX.out (Mem.below_drewN W nq))
          have HSZb := Go.Lib.hid (show w.heap.size + 1 ≤ (W.drewN nq).heap.size from Nat.le_trans HSZ.out (Mem.below_drewN W nq).size)
          obtain ⟨e0x, e1x⟩ := HKC.out _ BXb.out
          replace f0 := keepsF (Mem.below_drewN W nq) d0 f0
          replace f1 := keepsF (Mem.below_drewN W nq) d1 f1
          replace d0 := keeps (Mem.below_drewN W nq) d0
          replace d1 := keeps (Mem.below_drewN W nq) d1
          clear BX OX HSZ e0 e1
          generalize W.drewN nq = W5 at BXb OXb HSZb d0 d1 f0 f1 e0x e1x ⊢
          have BX := BXb
          have OX := OXb
          have HSZ := HSZb
          have e0 := e0x
          have e1 := e1x
          clear BXb OXb HSZb e0x e1x
          go_wp2_with fail
          have d0c : (W5.setCell ⟨w.heap.size, 0, none⟩ (.int .i64 pA)).cell? ⟨w.heap.size, 0, none⟩ = some (.int .i64 pA) := World.cell?_setCell_same _ _ _ d0
          have d1c := (World.cell?_setCell_other W5 ⟨w.heap.size, 0, none⟩ ⟨w.heap.size, 1, none⟩ (.int .i64 pA) (by simp)).trans d1
          have BXc := Go.Lib.hid (BX.out.setCell (p := ⟨w.heap.size, 0, none⟩) (Nat.le_refl _) (.int .i64 pA))
          have OXc := Go.Lib.hid (own_set OX.out (b := w.heap.size) (i := 0) (Nat.lt_succ_self _) (.int .i64 pA))
          have HSZc := Go.Lib.hid (show w.heap.size + 1 ≤ (W5.setCell ⟨w.heap.size, 0, none⟩ (.int .i64 pA)).heap.size by have := HSZ.out; simpa using this)
          obtain ⟨e0x, e1x⟩ := HKC.out _ BXc.out
          have f0c : (W5.setCell ⟨w.heap.size, 0, none⟩ (.int .i64 pA)).frozen? ⟨w.heap.size, 0, none⟩ = false := by simpa using f0
          have f1c : (W5.setCell ⟨w.heap.size, 0, none⟩ (.int .i64 pA)).frozen? ⟨w.heap.size, 1, none⟩ = false := by simpa using f1
          clear BX OX HSZ d0 d1 f0 f1 e0 e1
          generalize W5.setCell ⟨w.heap.size, 0, none⟩ (.int .i64 pA) = W6 at BXc OXc HSZc d0c d1c f0c f1c e0x e1x ⊢
          have BX := BXc
          have OX := OXc
          have HSZ := HSZc
          have d0 := d0c
          have d1 := d1c
          have f0 := f0c
          have f1 := f1c
          have e0 := e0x
          have e1 := e1x
          clear BXc OXc HSZc d0c d1c f0c f1c e0x e1x
          go_quiet (fail)
          have BXd := Go.Lib.hid (BX.out.trans ((Mem.below_drewN W6 nq).mono BX.out.size))
          have OXd := Go.Lib.hid (own_keep OX.out (Mem.below_drewN W6 nq))
          have HSZd := Go.Lib.hid (show w.heap.size + 1 ≤ (W6.drewN nq).heap.size from Nat.le_trans HSZ.out (Mem.below_drewN W6 nq).size)
          obtain ⟨e0x, e1x⟩ := HKC.out _ BXd.out
          replace f0 := keepsF (Mem.below_drewN W6 nq) d0 f0
          replace f1 := keepsF (Mem.below_drewN W6 nq) d1 f1
          replace d0 := keeps (Mem.below_drewN W6 nq) d0
          replace d1 := keeps (Mem.below_drewN W6 nq) d1
          clear BX OX HSZ e0 e1
          generalize W6.drewN nq = W7 at BXd OXd HSZd d0 d1 f0 f1 e0x e1x ⊢
          have BX := BXd
          have OX := OXd
          have HSZ := HSZd
          have e0 := e0x
          have e1 := e1x
          clear BXd OXd HSZd e0x e1x
          go_wp2
          have d1e : (W7.setCell ⟨w.heap.size, 1, none⟩ (.int .i64 pB)).cell? ⟨w.heap.size, 1, none⟩ = some (.int .i64 pB) := World.cell?_setCell_same _ _ _ d1
          have d0e := (World.cell?_setCell_other W7 ⟨w.heap.size, 1, none⟩ ⟨w.heap.size, 0, none⟩ (.int .i64 pB) (by simp)).trans d0
          have BXe := Go.Lib.hid (BX.out.setCell (p := ⟨w.heap.size, 1, none⟩) (Nat.le_refl _) (.int .i64 pB))
          have OXe := Go.Lib.hid (own_set OX.out (b := w.heap.size) (i := 1) (Nat.lt_succ_self _) (.int .i64 pB))
          have HSZe := Go.Lib.hid (show w.heap.size + 1 ≤ (W7.setCell ⟨w.heap.size, 1, none⟩ (.int .i64 pB)).heap.size by have := HSZ.out; simpa using this)
          obtain ⟨e0x, e1x⟩ := HKC.out _ BXe.out
          have f0e : (W7.setCell ⟨w.heap.size, 1, none⟩ (.int .i64 pB)).frozen? ⟨w.heap.size, 0, none⟩ = false := by simpa using f0
          have f1e : (W7.setCell ⟨w.heap.size, 1, none⟩ (.int .i64 pB)).frozen? ⟨w.heap.size, 1, none⟩ = false := by simpa using f1
          clear BX OX HSZ d0 d1 f0 f1 e0 e1
          generalize W7.setCell ⟨w.heap.size, 1, none⟩ (.int .i64 pB) = W8 at BXe OXe HSZe d0e d1e f0e f1e e0x e1x ⊢
          have BX := BXe
          have OX := OXe
          have HSZ := HSZe
          have d0 := d0e
          have d1 := d1e
          have f0 := f0e
          have f1 := f1e
          have e0 := e0x
          have e1 := e1x
          clear BXe OXe HSZe d0e d1e f0e f1e e0x e1x
          go_roundw
          case rel => exact ⟨i + 1, m, _, _, o, ⟨min z.A p.A, max z.B p.B⟩, z1', by omega, by go_num, rfl, HS, hm, HLZ, OX, ⟨by rw [HZA.out]; exact d0, by rw [HZB.out]; exact d1⟩, ⟨f0, f1⟩, BX, HSZ⟩
          case measure => simp [intOf]; omega
        · have g3 : decide (pA < zA) = true := decide_eq_true h3
          have g4 : decide (zB < pB) = false := decide_eq_false h4
          have HZA := Go.Lib.hid (show ((min z.A p.A : Nat) : Int) = pA by omega)
          have HZB := Go.Lib.hid (show ((max z.B p.B : Nat) : Int) = zB by omega)
          have HLZ := Go.Lib.hid (show Low ⟨min z.A p.A, max z.B p.B⟩ by unfold Low; dsimp only; omega)
          clear hT hpA hpB hzA hzB hlp hlz hbl
          go_wp2
          go_quiet (fail)
          have BXa := Go.Lib.hid (BX.out.trans ((Mem.below_drewN wr nq).mono BX.out.size))
          have OXa := Go.Lib.hid (own_keep OX.out (Mem.below_drewN wr nq))
          have HSZa := Go.Lib.hid (show w.heap.size + 1 ≤ (wr.drewN nq).heap.size from Nat.le_trans HSZ.out (Mem.below_drewN wr nq).size)
          obtain ⟨e0x, e1x⟩ := HKC.out _ BXa.out
          replace f0 := keepsF (Mem.below_drewN wr nq) d0 f0
          replace f1 := keepsF (Mem.below_drewN wr nq) d1 f1
          replace d0 := keeps (Mem.below_drewN wr nq) d0
          replace d1 := keeps (Mem.below_drewN wr nq) d1
          clear BX OX HSZ e0 e1
          generalize wr.drewN nq = W at BXa OXa HSZa d0 d1 f0 f1 e0x e1x ⊢
          have BX := BXa
          have OX := OXa
          have HSZ := HSZa
          have e0 := e0x
          have e1 := e1x
          clear BXa OXa HSZa e0x e1x
          go_wp2_with fail
          go_quiet (fail)
          have BXb := Go.Lib.hid (BX.out.trans ((Mem.below_drewN W nq).mono BX.out.size))
          have OXb := Go.Lib.hid (own_keep OX.out (Mem.below_drewN W nq))
          have HSZb := Go.Lib.hid (show w.heap.size + 1 ≤ (W.drewN nq).heap.size from Nat.le_trans HSZ.out (Mem.below_drewN W nq).size)
          obtain ⟨e0x, e1x⟩ := HKC.out _ BXb.out
          replace f0 := keepsF (Mem.below_drewN W nq) d0 f0
          replace f1 := keepsF (Mem.below_drewN W nq) d1 f1
          replace d0 := keeps (Mem.below_drewN W nq) d0
          replace d1 := keeps (Mem.below_drewN W nq) d1
          clear BX OX HSZ e0 e1
          generalize W.drewN nq = W5 at BXb OXb HSZb d0 d1 f0 f1 e0x e1x ⊢
          have BX := BXb
          have OX := OXb
          have HSZ := HSZb
          have e0 := e0x
          have e1 := e1x
          clear BXb OXb HSZb e0x e1x
          go_wp2_with fail
          have d0c : (W5.setCell ⟨w.heap.size, 0, none⟩ (.int .i64 pA)).cell? ⟨w.heap.size, 0, none⟩ = some (.int .i64 pA) := World.cell?_setCell_same _ _ _ d0
          have d1c := (World.cell?_setCell_other W5 ⟨w.heap.size, 0, none⟩ ⟨w.heap.size, 1, none⟩ (.int .i64 pA) (by simp)).trans d1
          have BXc := Go.Lib.hid (BX.out.setCell (p := ⟨w.heap.size, 0, none⟩) (Nat.le_refl _) (.int .i64 pA))
          have OXc := Go.Lib.hid (own_set OX.out (b := w.heap.size) (i := 0) (Nat.lt_succ_self _) (.int .i64 pA))
          have HSZc := Go.Lib.hid (show w.heap.size + 1 ≤ (W5.setCell ⟨w.heap.size, 0, none⟩ (.int .i64 pA)).heap.size by have := HSZ.out; simpa using this)
          obtain ⟨e0x, e1x⟩ := HKC.out _ BXc.out
          have f0c : (W5.setCell ⟨w.heap.size, 0, none⟩ (.int .i64 pA)).frozen? ⟨w.heap.size, 0, none⟩ = false := by simpa using f0
          have f1c : (W5.setCell ⟨w.heap.size, 0, none⟩ (.int .i64 pA)).frozen? ⟨w.heap.size, 1, none⟩ = false := by simpa using f1
          clear BX OX HSZ d0 d1 f0 f1 e0 e1
          generalize W5.setCell ⟨w.heap.size, 0, none⟩ (.int .i64 pA) = W6 at BXc OXc HSZc d0c d1c f0c f1c e0x e1x ⊢
          have BX := BXc
          have OX := OXc
          have HSZ := HSZc
          have d0 := d0c
          have d1 := d1c
          have f0 := f0c
          have f1 := f1c
          have e0 := e0x
          have e1 := e1x
          clear BXc OXc HSZc d0c d1c f0c f1c e0x e1x
          go_quiet (fail)
          have BXd := Go.Lib.hid (BX.out.trans ((Mem.below_drewN W6 nq).mono BX.out.size))
          have OXd := Go.Lib.hid (own_keep OX.out (Mem.below_drewN W6 nq))
          have HSZd := Go.Lib.hid (show w.heap.size + 1 ≤ (W6.drewN nq).heap.size from Nat.le_trans HSZ.out (Mem.below_drewN W6 nq).size)
          obtain ⟨e0x, e1x⟩ := HKC.out _ BXd.out
          replace f0 := keepsF (Mem.below_drewN W6 nq) d0 f0
          replace f1 := keepsF (Mem.below_drewN W6 nq) d1 f1
          replace d0 := keeps (Mem.below_drewN W6 nq) d0
          replace d1 := keeps (Mem.below_drewN W6 nq) d1
          clear BX OX HSZ e0 e1
          generalize W6.drewN nq = W7 at BXd OXd HSZd d0 d1 f0 f1 e0x e1x ⊢
          have BX := BXd
          have OX := OXd
          have HSZ := HSZd
          have e0 := e0x
          have e1 := e1x
          clear BXd OXd HSZd e0x e1x
          go_wp2
          go_roundw
          case rel => exact ⟨i + 1, m, _, _, o, ⟨min z.A p.A, max z.B p.B⟩, z1', by omega, by go_num, rfl, HS, hm, HLZ, OX, ⟨by rw [HZA.out]; exact d0, by rw [HZB.out]; exact d1⟩, ⟨f0, f1⟩, BX, HSZ⟩
          case measure => simp [intOf]; omega
      · by_cases h4 : zB < pB
        · have g3 : decide (pA < zA) = false := decide_eq_false h3
          have g4 : decide (zB < pB) = true := decide_eq_true h4
          have HZA := Go.Lib.hid (show ((min z.A p.A : Nat) : Int) = zA by omega)
          have HZB := Go.Lib.hid (show ((max z.B p.B : Nat) : Int) = pB by omega)
          have HLZ := Go.Lib.hid (show Low ⟨min z.A p.A, max z.B p.B⟩ by unfold Low; dsimp only; omega)
          clear hT hpA hpB hzA hzB hlp hlz hbl
          go_wp2
          go_quiet (fail)
          have BXa := Go.Lib.hid (BX.out.trans ((Mem.below_drewN wr nq).mono BX.out.size))
          have OXa := Go.Lib.hid (own_keep OX.out (Mem.below_drewN wr nq))
          have HSZa := Go.Lib.hid (show w.heap.size + 1 ≤ (wr.drewN nq).heap.size from Nat.le_trans HSZ.out (Mem.below_drewN wr nq).size)
          obtain ⟨e0x, e1x⟩ := HKC.out _ BXa.out
          replace f0 := keepsF (Mem.below_drewN wr nq) d0 f0
          replace f1 := keepsF (Mem.below_drewN wr nq) d1 f1
          replace d0 := keeps (Mem.below_drewN wr nq) d0
          replace d1 := keeps (Mem.below_drewN wr nq) d1
          clear BX OX HSZ e0 e1
          generalize wr.drewN nq = W at BXa OXa HSZa d0 d1 f0 f1 e0x e1x ⊢
          have BX := BXa
          have OX := OXa
          have HSZ := HSZa
          have e0 := e0x
          have e1 := e1x
          clear BXa OXa HSZa e0x e1x
          go_wp2_with fail
          go_quiet (fail)
          have BXb := Go.Lib.hid (BX.out.trans ((Mem.below_drewN W nq).mono BX.out.size))
          have OXb := Go.Lib.hid (own_keep OX.out (Mem.below_drewN W nq))
          have HSZb := Go.Lib.hid (show w.heap.size + 1 ≤ (W.drewN nq).heap.size from Nat.le_trans HSZ.out (Mem.below_drewN W nq).size)
          obtain ⟨e0x, e1x⟩ := HKC.out _ BXb.out
          replace f0 := keepsF (Mem.below_drewN W nq) d0 f0
          replace f1 := keepsF (Mem.below_drewN W nq) d1 f1
          replace d0 := keeps (Mem.below_drewN W nq) d0
          replace d1 := keeps (Mem.below_drewN W nq) d1
          clear BX OX HSZ e0 e1
          generalize W.drewN nq = W5 at BXb OXb HSZb d0 d1 f0 f1 e0x e1x ⊢
          have BX := BXb
          have OX := OXb
          have HSZ := HSZb
          have e0 := e0x
          have e1 := e1x
          clear BXb OXb HSZb e0x e1x
          go_wp2_with fail
          go_quiet (fail)
          have BXd := Go.Lib.hid (BX.out.trans ((Mem.below_drewN W5 nq).mono BX.out.size))
          have OXd := Go.Lib.hid (own_keep OX.out (Mem.below_drewN W5 nq))
          have HSZd := Go.Lib.hid (show w.heap.size + 1 ≤ (W5.drewN nq).heap.size from Nat.le_trans HSZ.out (Mem.below_drewN W5 nq).size)
          obtain ⟨e0x, e1x⟩ := HKC.out _ BXd.out
          replace f0 := keepsF (Mem.below_drewN W5 nq) d0 f0
          replace f1 := keepsF (Mem.below_drewN W5 nq) d1 f1
          replace d0 := keeps (Mem.below_drewN W5 nq) d0
          replace d1 := keeps (Mem.below_drewN W5 nq) d1
          clear BX OX HSZ e0 e1
          generalize W5.drewN nq = W7 at BXd OXd HSZd d0 d1 f0 f1 e0x e1x ⊢
          have BX := BXd
          have OX := OXd
          have HSZ := HSZd
          have e0 := e0x
          have e1 := e1x
          clear BXd OXd HSZd e0x e1x
          go_wp2
          have d1e : (W7.setCell ⟨w.heap.size, 1, none⟩ (.int .i64 pB)).cell? ⟨w.heap.size, 1, none⟩ = some (.int .i64 pB) := World.cell?_setCell_same _ _ _ d1
          have d0e := (World.cell?_setCell_other W7 ⟨w.heap.size, 1, none⟩ ⟨w.heap.size, 0, none⟩ (.int .i64 pB) (by simp)).trans d0
          have BXe := Go.Lib.hid (BX.out.setCell (p := ⟨w.heap.size, 1, none⟩) (Nat.le_refl _) (.int .i64 pB))
          have OXe := Go.Lib.hid (own_set OX.out (b := w.heap.size) (i := 1) (Nat.lt_succ_self _) (.int .i64 pB))
          have HSZe := Go.Lib.hid (show w.heap.size + 1 ≤ (W7.setCell ⟨w.heap.size, 1, none⟩ (.int .i64 pB)).heap.size by have := HSZ.out; simpa using this)
          obtain ⟨e0x, e1x⟩ := HKC.out _ BXe.out
          have f0e : (W7.setCell ⟨w.heap.size, 1, none⟩ (.int .i64 pB)).frozen? ⟨w.heap.size, 0, none⟩ = false := by simpa using f0
          have f1e : (W7.setCell ⟨w.heap.size, 1, none⟩ (.int .i64 pB)).frozen? ⟨w.heap.size, 1, none⟩ = false := by simpa using f1
          clear BX OX HSZ d0 d1 f0 f1 e0 e1
          generalize W7.setCell ⟨w.heap.size, 1, none⟩ (.int .i64 pB) = W8 at BXe OXe HSZe d0e d1e f0e f1e e0x e1x ⊢
          have BX := BXe
          have OX := OXe
          have HSZ := HSZe
          have d0 := d0e
          have d1 := d1e
          have f0 := f0e
          have f1 := f1e
          have e0 := e0x
          have e1 := e1x
          clear BXe OXe HSZe d0e d1e f0e f1e e0x e1x
          go_roundw
          case rel => exact ⟨i + 1, m, _, _, o, ⟨min z.A p.A, max z.B p.B⟩, z1', by omega, by go_num, rfl, HS, hm, HLZ, OX, ⟨by rw [HZA.out]; exact d0, by rw [HZB.out]; exact d1⟩, ⟨f0, f1⟩, BX, HSZ⟩
          case measure => simp [intOf]; omega
        · have g3 : decide (pA < zA) = false := decide_eq_false h3
          have g4 : decide (zB < pB) = false := decide_eq_false h4
          have HZA := Go.Lib.hid (show ((min z.A p.A : Nat) : Int) = zA by omega)
          have HZB := Go.Lib.hid (show ((max z.B p.B : Nat) : Int) = zB by omega)
          have HLZ := Go.Lib.hid (show Low ⟨min z.A p.A, max z.B p.B⟩ by unfold Low; dsimp only; omega)
          clear hT hpA hpB hzA hzB hlp hlz hbl
          go_wp2
          go_quiet (fail)
          have BXa := Go.Lib.hid (BX.out.trans ((Mem.below_drewN wr nq).mono BX.out.size))
          have OXa := Go.Lib.hid (own_keep OX.out (Mem.below_drewN wr nq))
          have HSZa := Go.Lib.hid (show w.heap.size + 1 ≤ (wr.drewN nq).heap.size from Nat.le_trans HSZ.out (Mem.below_drewN wr nq).size)
          obtain ⟨e0x, e1x⟩ := HKC.out _ BXa.out
          replace f0 := keepsF (Mem.below_drewN wr nq) d0 f0
          replace f1 := keepsF (Mem.below_drewN wr nq) d1 f1
          replace d0 := keeps (Mem.below_drewN wr nq) d0
          replace d1 := keeps (Mem.below_drewN wr nq) d1
          clear BX OX HSZ e0 e1
          generalize wr.drewN nq = W at BXa OXa HSZa d0 d1 f0 f1 e0x e1x ⊢
          have BX := BXa
          have OX := OXa
          have HSZ := HSZa
          have e0 := e0x
          have e1 := e1x
          clear BXa OXa HSZa e0x e1x
          go_wp2_with fail
          go_quiet (fail)
          have BXb := Go.Lib.hid (BX.out.trans ((Mem.below_drewN W nq).mono BX.out.size))
          have OXb := Go.Lib.hid (own_keep OX.out (Mem.below_drewN W nq))
          have HSZb := Go.Lib.hid (show w.heap.size + 1 ≤ (W.drewN nq).heap.size from Nat.le_trans HSZ.out (Mem.below_drewN W nq).size)
          obtain ⟨e0x, e1x⟩ := HKC.out _ BXb.out
          replace f0 := keepsF (Mem.below_drewN W nq) d0 f0
          replace f1 := keepsF (Mem.below_drewN W nq) d1 f1
          replace d0 := keeps (Mem.below_drewN W nq) d0
          replace d1 := keeps (Mem.below_drewN W nq) d1
          clear BX OX HSZ e0 e1
          generalize W.drewN nq = W5 at BXb OXb HSZb d0 d1 f0 f1 e0x e1x ⊢
          have BX := BXb
          have OX := OXb
          have HSZ := HSZb
          have e0 := e0x
          have e1 := e1x
          clear BXb OXb HSZb e0x e1x
          go_wp2_with fail
          go_quiet (fail)
          have BXd := Go.Lib.hid (BX.out.trans ((Mem.below_drewN W5 nq).mono BX.out.size))
          have OXd := Go.Lib.hid (own_keep OX.out (Mem.below_drewN W5 nq))
          have HSZd := Go.Lib.hid (show w.heap.size + 1 ≤ (W5.drewN nq).heap.size from Nat.le_trans HSZ.out (Mem.below_drewN W5 nq).size)
          obtain ⟨e0x, e1x⟩ := HKC.out _ BXd.out
          replace f0 := keepsF (Mem.below_drewN W5 nq) d0 f0
          replace f1 := keepsF (Mem.below_drewN W5 nq) d1 f1
          replace d0 := keeps (Mem.below_drewN W5 nq) d0
          replace d1 := keeps (Mem.below_drewN W5 nq) d1
          clear BX OX HSZ e0 e1
          generalize W5.drewN nq = W7 at BXd OXd HSZd d0 d1 f0 f1 e0x e1x ⊢
          have BX := BXd
          have OX := OXd
          have HSZ := HSZd
          have e0 := e0x
          have e1 := e1x
          clear BXd OXd HSZd e0x e1x
          go_wp2
          go_roundw
          case rel => exact ⟨i + 1, m, _, _, o, ⟨min z.A p.A, max z.B p.B⟩, z1', by omega, by go_num, rfl, HS, hm, HLZ, OX, ⟨by rw [HZA.out]; exact d0, by rw [HZB.out]; exact d1⟩, ⟨f0, f1⟩, BX, HSZ⟩
          case measure => simp [intOf]; omega
    · have z1 : decide ((i : Int) < (l.length : Int)) = false := decide_eq_false (by omega)
      have HFI := Go.Lib.hid (show l.foldl stepA ([], x) = (o, z) by rw [← hF.out, List.take_of_length_le (by omega)])
      have HIN0 := Go.Lib.hid (show addT l x = insT o z by unfold addT; rw [HFI.out])
      have hm4 : m ≤ 100000 := by omega
      have hwr : Below wr.heap.size wr wr := Below.refl _ _
      have HBR := hb
      have HOR := hown
      have HSR := hsz
      clear hF HFI hb hown hsz f0 f1
      go_wp2
      go_loopw [7] (fun v7 wk => ∃ k : Nat, k ≤ m ∧ v7 = .int .i64 k ∧ Hid (∀ q ∈ o.take k, q.A < z.A) ∧ Hid (Below w.heap.size w wk) ∧ Hid (wk.ownsRow (w.heap.size + 1) 42 2 (.slice B m d) m (tcells o)) ∧ (wk.cell? ⟨w.heap.size, 0, none⟩ = some (.int .i64 z.A) ∧ wk.cell? ⟨w.heap.size, 1, none⟩ = some (.int .i64 z.B)) ∧ Hid (w.heap.size + 1 ≤ wk.heap.size)) (fun v7 _ => m - (intOf v7).toNat)
      case atStart => exact ⟨0, Nat.zero_le _, rfl, Go.Lib.hid (fun q hq => by cases hq), HBR, HOR, ⟨d0, d1⟩, HSR⟩
      case round =>

        obtain ⟨k, hkm, rfl, hlo, BX, OX, ⟨d0, d1⟩, HSZ⟩ := hrel
        have z2 : (0 : Int) ≤ (k : Int) := by omega
        by_cases hk : k < m
        · obtain ⟨q, hq⟩ : ∃ q, o[k]? = some q := ⟨_, List.getElem?_eq_getElem (by have := hm.out; omega)⟩
          have hrow := Pts.of_own (by rw [← hm.out]; exact OX.out)
          obtain ⟨bq, oq, rfl, hbq, e0, e1⟩ := hrow.at_ hq
          have z3 : (k : Int) < (m : Int) := by omega
          obtain ⟨qA, hqA⟩ : ∃ a : Int, (q.A : Int) = a := ⟨_, rfl⟩
          obtain ⟨zA, hzA⟩ : ∃ a : Int, (z.A : Int) = a := ⟨_, rfl⟩
          rw [hqA] at e0
          by_cases hlt2 : qA < zA
          · have g1 : decide (qA < zA) = true := decide_eq_true hlt2
            have HL2 := Go.Lib.hid (show ∀ r ∈ o.take (k + 1), r.A < z.A by
              intro r hr
              rw [List.take_add_one, hq] at hr
              rcases List.mem_append.1 hr with hr | hr
              · exact hlo.out r hr
              · simp at hr
                rw [hr]
                omega)
            have HZ := Go.Lib.hid hzA
            rw [hzA] at d0
            clear hq hrow hbq hqA hzA
            go_wp2
            go_quiet (fail)
            have BXa := Go.Lib.hid (BX.out.trans ((Mem.below_drewN wr nq).mono BX.out.size))
            have OXa := Go.Lib.hid (own_keep OX.out (Mem.below_drewN wr nq))
            have HSZa := Go.Lib.hid (show w.heap.size + 1 ≤ (wr.drewN nq).heap.size from Nat.le_trans HSZ.out (Mem.below_drewN wr nq).size)
            replace d0 := keeps (Mem.below_drewN wr nq) d0
            replace d1 := keeps (Mem.below_drewN wr nq) d1
            clear BX OX HSZ e0 e1
            generalize wr.drewN nq = WN at BXa OXa HSZa d0 d1 ⊢
            go_wp2
            go_roundw
            case rel => exact ⟨k + 1, hk, by go_num, HL2, BXa, OXa, ⟨by rw [HZ.out]; exact d0, d1⟩, HSZa⟩
            case measure => simp [intOf]; omega
          · have g1 : decide (qA < zA) = false := decide_eq_false hlt2
            have HIN := Go.Lib.hid (HIN0.out.trans (insT_at o k hlo.out (.inr ⟨q, hq, by omega⟩)))
            have HZ := Go.Lib.hid hzA
            rw [hzA] at d0
            clear hq hrow hbq hqA hzA hlo HIN0
            go_wp2
            go_quiet (fail)
            have BXa := Go.Lib.hid (BX.out.trans ((Mem.below_drewN wr nq).mono BX.out.size))
            have OXa := Go.Lib.hid (own_keep OX.out (Mem.below_drewN wr nq))
            have HSZa := Go.Lib.hid (show w.heap.size + 1 ≤ (wr.drewN nq).heap.size from Nat.le_trans HSZ.out (Mem.below_drewN wr nq).size)
            replace d0 := keeps (Mem.below_drewN wr nq) d0
            replace d1 := keeps (Mem.below_drewN wr nq) d1
            rw [← HZ.out] at d0
            clear HSZ e0 e1
            clear BX OX
            generalize wr.drewN nq = WN at BXa OXa HSZa d0 d1 ⊢
            have hR0 := (Row.of_own OXa.out).prefix_ (k := k) (by omega)
            rw [tcells_take] at hR0
            have hR1 := cutT_at2 (Row.of_own OXa.out) (k := k) (by omega)
            have HR0 := Go.Lib.hid hR0
            have HR1 := Go.Lib.hid hR1
            clear hR0 hR1
            have hnn : w.heap.size < WN.heap.size := Nat.lt_of_lt_of_le (Nat.lt_succ_self _) HSZa.out
            have HSN := Go.Lib.hid (fun (W : World) (h : Below WN.heap.size WN W) => (⟨h, (h.cell (p := ⟨w.heap.size, 0, none⟩) hnn).trans d0, (h.cell (p := ⟨w.heap.size, 1, none⟩) hnn).trans d1⟩ : Below WN.heap.size WN W ∧ W.cell? ⟨w.heap.size, 0, none⟩ = some (.int .i64 z.A) ∧ W.cell? ⟨w.heap.size, 1, none⟩ = some (.int .i64 z.B)))
            have T0 := Go.Lib.hid True.intro
            have hmc : m ≤ d := by obtain ⟨_, _, _, e, h, _⟩ := Row.of_own OXa.out; injection e with e1 e2 e3; omega
            have u1 : (k : Int) ≤ (d : Int) := by omega
            have u2 : (k : Int) ≤ (m : Int) := by omega
            clear d0 d1 hnn
            go_wp2
            go_region_held3 (fun w' => Below WN.heap.size WN w' ∧ w'.cell? ⟨w.heap.size, 0, none⟩ = some (.int .i64 z.A) ∧ w'.cell? ⟨w.heap.size, 1, none⟩ = some (.int .i64 z.B)) (first | assumption | exact HSN.out _ (Below.refl _ _).drew | exact HSN.out _ (by assumption) | exact HSN.out _ (Below.alloc (And.left (by assumption)) (Below.size (And.left (by assumption))) _))
              (first
                | (have tok := T0.out
                   refine step_append_row (by rfl) (.tmp 86) (.tmp 89) (by rfl) E0 WN.heap.size _ 0 [] (by rfl) ?_ _ k (tcells (o.take k)) (by rfl) ?_ (ones_t _) ?_ ?_ ?_ k (Nat.zero_add k) ?_
                   · exact own_blkT (by simp) (by simp only [heap_dr, heap_al, Array.getElem?_push, Array.size_push]; simp)
                   · exact HR0.out.keep (And.left (by assumption))
                   · unfold maxLen; omega
                   · omega
                   · simp; try omega
                   intro A5 c5 x1 hown1 hg1 hat1 hb0
                   have hb1 : Below WN.heap.size WN x1 := Below.trans (And.left (by assumption)) hb0
                   have hS1 := HSN.out _ hb1
                   clear hb0 tok T0)
                | (have tok := hown1
                   clear tok
                   refine step_append_row (by rfl) (.tmp 90) (.tmp 92) (by rfl) E0 WN.heap.size (.slice A5 k c5) k ([] ++ tcells (o.take k)) (by rfl) hown1 _ 1 [.int .i64 z.A, .int .i64 z.B] (by rfl) ?_ (ones2 _ _ _ _) ?_ ?_ hb1.size (k + 1) rfl ?_
                   · refine one_blkT (t := 42) ((hg1.block _ ?_ ?_).trans ?_)
                     · simp only [heap_dr, heap_al, Array.size_push]; omega
                     · simp [Act.eval, Value.ownBlock]; try omega
                     · simp only [heap_dr, heap_al, Array.getElem?_push, Array.size_push]; simp
                   · unfold maxLen; omega
                   · omega
                   intro A6 c6 x2 hown2 hg2 hat2 hb0
                   have hb2 : Below WN.heap.size WN x2 := Below.trans hb1 hb0
                   have hS2 := HSN.out _ hb2
                   clear hb0 hown1)
                | (have tok := hown1
                   clear tok
                   refine step_append_row (by rfl) (.tmp 90) (.tmp 92) (by rfl) E0 WN.heap.size (.slice A5 k c5) k ([] ++ tcells (o.take k)) (by rfl) (hown1.alloc _) _ 1 [.int .i64 z.A, .int .i64 z.B] (by rfl) ?_ (ones2 _ _ _ _) ?_ ?_ ?_ (k + 1) rfl ?_
                   · exact row_new2 _ _ _ _
                   · unfold maxLen; omega
                   · omega
                   · exact Nat.le_trans hb1.size (by simp)
                   intro A6 c6 x2 hown2 hg2 hat2 hb0
                   have hb2 : Below WN.heap.size WN x2 := Below.trans (And.left (by assumption)) hb0
                   have hS2 := HSN.out _ hb2
                   clear hb0 hown1)
                | (have tok := hown2
                   clear tok
                   refine step_append_row (by rfl) (.tmp 93) (.tmp 96) (by rfl) E0 WN.heap.size (.slice A6 (k + 1) c6) (k + 1) ([] ++ tcells (o.take k) ++ [.int .i64 z.A, .int .i64 z.B]) (by rfl) hown2 _ (m - k) (tcells (o.drop k)) (by rfl) ?_ (ones_t _) ?_ ?_ hb2.size (m + 1) (by omega) ?_
                   · exact HR1.out.keep hb2
                   · unfold maxLen; omega
                   · omega
                   intro A7 c7 x3 hown3 hg3 hat3 hb0
                   have hb3 : Below WN.heap.size WN x3 := Below.trans hb2 hb0
                   have hS3 := HSN.out _ hb3
                   clear hb0 hown2))
            all_goals go_wp2
            all_goals go_ret
            all_goals exact ⟨_, _, by rw [HIN.out, List.length_append, List.length_cons, List.length_take, List.length_drop, ← hm.out, show min k m + (m - k + 1) = m + 1 by omega]; rfl, by rw [HIN.out, show (o.take k ++ z :: o.drop k).length = m + 1 by rw [List.length_append, List.length_cons, List.length_take, List.length_drop, ← hm.out]; omega]; exact own_insT hown3 (Nat.le_trans (Nat.le_of_lt (Nat.lt_succ_self _)) HSZa.out), BXa.out.trans (hb3.mono BXa.out.size)⟩
        · have z3 : decide ((k : Int) < (m : Int)) = false := decide_eq_false (by omega)
          have z4 : ¬ ((k : Int) < (m : Int)) := by omega
          have HIN := Go.Lib.hid (HIN0.out.trans (insT_at o k hlo.out (.inl (by have := hm.out; omega))))
          clear hlo HIN0
          go_wp2
          go_quiet (fail)
          have BXa := Go.Lib.hid (BX.out.trans ((Mem.below_drewN wr nq).mono BX.out.size))
          have OXa := Go.Lib.hid (own_keep OX.out (Mem.below_drewN wr nq))
          have HSZa := Go.Lib.hid (show w.heap.size + 1 ≤ (wr.drewN nq).heap.size from Nat.le_trans HSZ.out (Mem.below_drewN wr nq).size)
          replace d0 := keeps (Mem.below_drewN wr nq) d0
          replace d1 := keeps (Mem.below_drewN wr nq) d1
          clear HSZ
          clear BX OX
          generalize wr.drewN nq = WN at BXa OXa HSZa d0 d1 ⊢
          have hR0 := (Row.of_own OXa.out).prefix_ (k := k) (by omega)
          rw [tcells_take] at hR0
          have hR1 := cutT_at (Row.of_own OXa.out) (k := k) (by omega)
          have HR0 := Go.Lib.hid hR0
          have HR1 := Go.Lib.hid hR1
          clear hR0 hR1
          have hnn : w.heap.size < WN.heap.size := Nat.lt_of_lt_of_le (Nat.lt_succ_self _) HSZa.out
          have HSN := Go.Lib.hid (fun (W : World) (h : Below WN.heap.size WN W) => (⟨h, (h.cell (p := ⟨w.heap.size, 0, none⟩) hnn).trans d0, (h.cell (p := ⟨w.heap.size, 1, none⟩) hnn).trans d1⟩ : Below WN.heap.size WN W ∧ W.cell? ⟨w.heap.size, 0, none⟩ = some (.int .i64 z.A) ∧ W.cell? ⟨w.heap.size, 1, none⟩ = some (.int .i64 z.B)))
          have T0 := Go.Lib.hid True.intro
          have hmc : m ≤ d := by obtain ⟨_, _, _, e, h, _⟩ := Row.of_own OXa.out; injection e with e1 e2 e3; omega
          have u1 : (k : Int) ≤ (d : Int) := by omega
          have u2 : (k : Int) ≤ (m : Int) := by omega
          clear d0 d1 hnn
          go_wp2
          go_region_held3 (fun w' => Below WN.heap.size WN w' ∧ w'.cell? ⟨w.heap.size, 0, none⟩ = some (.int .i64 z.A) ∧ w'.cell? ⟨w.heap.size, 1, none⟩ = some (.int .i64 z.B)) (first | assumption | exact HSN.out _ (Below.refl _ _).drew | exact HSN.out _ (by assumption) | exact HSN.out _ (Below.alloc (And.left (by assumption)) (Below.size (And.left (by assumption))) _))
            (first
              | (have tok := T0.out
                 refine step_append_row (by rfl) (.tmp 86) (.tmp 89) (by rfl) E0 WN.heap.size _ 0 [] (by rfl) ?_ _ k (tcells (o.take k)) (by rfl) ?_ (ones_t _) ?_ ?_ ?_ k (Nat.zero_add k) ?_
                 · exact own_blkT (by simp) (by simp only [heap_dr, heap_al, Array.getElem?_push, Array.size_push]; simp)
                 · exact HR0.out.keep (And.left (by assumption))
                 · unfold maxLen; omega
                 · omega
                 · simp; try omega
                 intro A5 c5 x1 hown1 hg1 hat1 hb0
                 have hb1 : Below WN.heap.size WN x1 := Below.trans (And.left (by assumption)) hb0
                 have hS1 := HSN.out _ hb1
                 clear hb0 tok T0)
              | (have tok := hown1
                 clear tok
                 refine step_append_row (by rfl) (.tmp 90) (.tmp 92) (by rfl) E0 WN.heap.size (.slice A5 k c5) k ([] ++ tcells (o.take k)) (by rfl) hown1 _ 1 [.int .i64 z.A, .int .i64 z.B] (by rfl) ?_ (ones2 _ _ _ _) ?_ ?_ hb1.size (k + 1) rfl ?_
                 · refine one_blkT (t := 42) ((hg1.block _ ?_ ?_).trans ?_)
                   · simp only [heap_dr, heap_al, Array.size_push]; omega
                   · simp [Act.eval, Value.ownBlock]; try omega
                   · simp only [heap_dr, heap_al, Array.getElem?_push, Array.size_push]; simp
                 · unfold maxLen; omega
                 · omega
                 intro A6 c6 x2 hown2 hg2 hat2 hb0
                 have hb2 : Below WN.heap.size WN x2 := Below.trans hb1 hb0
                 have hS2 := HSN.out _ hb2
                 clear hb0 hown1)
              | (have tok := hown1
                 clear tok
                 refine step_append_row (by rfl) (.tmp 90) (.tmp 92) (by rfl) E0 WN.heap.size (.slice A5 k c5) k ([] ++ tcells (o.take k)) (by rfl) (hown1.alloc _) _ 1 [.int .i64 z.A, .int .i64 z.B] (by rfl) ?_ (ones2 _ _ _ _) ?_ ?_ ?_ (k + 1) rfl ?_
                 · exact row_new2 _ _ _ _
                 · unfold maxLen; omega
                 · omega
                 · exact Nat.le_trans hb1.size (by simp)
                 intro A6 c6 x2 hown2 hg2 hat2 hb0
                 have hb2 : Below WN.heap.size WN x2 := Below.trans (And.left (by assumption)) hb0
                 have hS2 := HSN.out _ hb2
                 clear hb0 hown1)
              | (have tok := hown2
                 clear tok
                 refine step_append_row (by rfl) (.tmp 93) (.tmp 96) (by rfl) E0 WN.heap.size (.slice A6 (k + 1) c6) (k + 1) ([] ++ tcells (o.take k) ++ [.int .i64 z.A, .int .i64 z.B]) (by rfl) hown2 _ (m - k) (tcells (o.drop k)) (by rfl) ?_ (ones_t _) ?_ ?_ hb2.size (m + 1) (by omega) ?_
                 · exact HR1.out.keep hb2
                 · unfold maxLen; omega
                 · omega
                 intro A7 c7 x3 hown3 hg3 hat3 hb0
                 have hb3 : Below WN.heap.size WN x3 := Below.trans hb2 hb0
                 have hS3 := HSN.out _ hb3
                 clear hb0 hown2))
          all_goals go_wp2
          all_goals go_ret
          all_goals exact ⟨_, _, by rw [HIN.out, List.length_append, List.length_cons, List.length_take, List.length_drop, ← hm.out, show min k m + (m - k + 1) = m + 1 by omega]; rfl, by rw [HIN.out, show (o.take k ++ z :: o.drop k).length = m + 1 by rw [List.length_append, List.length_cons, List.length_take, List.length_drop, ← hm.out]; omega]; exact own_insT hown3 (Nat.le_trans (Nat.le_of_lt (Nat.lt_succ_self _)) HSZa.out), BXa.out.trans (hb3.mono BXa.out.size)⟩
end Go.Proofs.YtgjdpmpbldofpaaDoor.Wlk
