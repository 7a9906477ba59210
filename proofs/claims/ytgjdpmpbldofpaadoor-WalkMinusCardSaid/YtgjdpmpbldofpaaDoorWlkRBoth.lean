/- The reference's Both. -/
import Derived.Test.YtgjdpmpbldofpaaDoorWlkROf
import Derived.Test.YtgjdpmpbldofpaaDoorPfxSix
import Derived.Deep.Cut
namespace Go.Proofs.YtgjdpmpbldofpaaDoor.Wlk
open Go.RowKit Mem Pfx PR Oct

theorem bothT_take_is {a b : List Pt} (ha : ∀ p ∈ a, InT p) (hb : ∀ q ∈ b, InT q) (i : Nat) : Norm (bothT (a.take i) b) ∧ (bothT (a.take i) b).length ≤ a.length * b.length := by
  obtain ⟨h1, h2, h3⟩ := both_is (a := a.take i) (b := b) (fun p hp => ha p (List.mem_of_mem_take hp)) hb
  refine ⟨h1, Nat.le_trans h3 (Nat.mul_le_mul_right _ ?_)⟩
  rw [List.length_take]
  omega
theorem pts_own {W : World} {base : Nat} {A : Option Addr} {c m : Nat} {l : List Pt} (h : W.ownsRow base 42 2 (.slice A m c) m (tcells l)) (hm : m = l.length) : Pts W (.slice A m c) l := by
  subst hm
  exact Pts.of_own h
set_option maxRecDepth 100000 in
set_option maxHeartbeats 16000000 in
theorem rboth_any (va vb : Value) (la lb : List Pt) (w : World) (hva : Pts w va la) (hvb : Pts w vb lb) (hla : ∀ p ∈ la, InT p) (hlb : ∀ q ∈ lb, InT q) (h1 : la.length ≤ 100) (h2 : lb.length ≤ 100) : Calls Tryd.prog 9 #[va, vb] w (GivesT (bothT la lb) w) := by
  obtain ⟨Aa, ca, rfl, -, -⟩ := hva.form
  obtain ⟨Ab, cb, rfl, -, -⟩ := hvb.form
  have HA := Go.Lib.hid hva
  have HBv := Go.Lib.hid hvb
  have HLA := Go.Lib.hid hla
  have HLB := Go.Lib.hid hlb
  have HML := Go.Lib.hid (show la.length * lb.length ≤ 10000 from Nat.le_trans (Nat.mul_le_mul h1 h2) (by decide))
  have H0 := Go.Lib.hid (show (w.alloc (.cells #[] 42)).ownsRow w.heap.size 42 2 (.slice (some ⟨w.heap.size, 0, none⟩) 0 0) 0 (tcells []) from own_blkT (Nat.le_refl _) (heap_alloc_new _ _))
  have HB := Go.Lib.hid (show Below w.heap.size w (w.alloc (.cells #[] 42)) from (Below.refl _ w).alloc (Nat.le_refl _) _)
  clear hva hvb hla hlb
  go_enter Tryd.func9, Tryd.ntmps9
  go_wp2
  go_loopw [5, 6] (fun v5 v6 wx => ∃ (i m : Nat) (B : Option Addr) (d : Nat), i ≤ la.length ∧ v6 = .int .i64 i ∧ v5 = .slice B m d ∧ Hid (m = (bothT (la.take i) lb).length) ∧ Hid (wx.ownsRow w.heap.size 42 2 (.slice B m d) m (tcells (bothT (la.take i) lb))) ∧ Hid (Below w.heap.size w wx)) (fun _ v6 _ => la.length - (intOf v6).toNat)
  case atStart => exact ⟨0, 0, _, 0, Nat.zero_le _, rfl, rfl, Go.Lib.hid rfl, H0, HB⟩
  case round =>
    obtain ⟨i, m, B, d, hi, rfl, rfl, hm, hown, hb⟩ := hrel
    by_cases hlt : i < la.length
    · obtain ⟨p, hp⟩ : ∃ p, la[i]? = some p := ⟨_, List.getElem?_eq_getElem hlt⟩
      have hip := HLA.out p (List.mem_of_getElem? hp)
      obtain ⟨bl, off, rfl, hbl, k0, k1⟩ := (HA.out).at_ hp
      have HKA := Go.Lib.hid (fun (W : World) (h : Below w.heap.size w W) => (⟨(h.cell (p := ⟨bl, off + i * 2, none⟩) hbl).trans k0, (h.cell (p := ⟨bl, off + i * 2 + 1, none⟩) hbl).trans k1⟩ : W.cell? ⟨bl, off + i * 2, none⟩ = some (.int .i64 p.A) ∧ W.cell? ⟨bl, off + i * 2 + 1, none⟩ = some (.int .i64 p.B)))
      have z0 : (0 : Int) ≤ (i : Int) := by omega
      have z1 : (i : Int) < (la.length : Int) := by omega
      have z1' : i + 1 ≤ la.length := hlt
      have HT := Go.Lib.hid (bothT_take (b := lb) hp)
      have HN0 := Go.Lib.hid (bothT_take_is HLA.out HLB.out i)
      have HIP := Go.Lib.hid hip
      generalize bothT (la.take i) lb = O at hm hown HT HN0
      clear k0 k1 hbl hp hip hlt
      go_wp2
      go_loopw [5, 7] (fun v5 v7 wx => ∃ (k m : Nat) (B : Option Addr) (d : Nat), k ≤ lb.length ∧ v7 = .int .i64 k ∧ v5 = .slice B m d ∧ Hid (m = (bothI p O (lb.take k)).length) ∧ Hid (wx.ownsRow w.heap.size 42 2 (.slice B m d) m (tcells (bothI p O (lb.take k)))) ∧ Hid (Below w.heap.size w wx)) (fun _ v7 _ => lb.length - (intOf v7).toNat)
      case atStart => exact ⟨0, m, B, d, Nat.zero_le _, rfl, rfl, hm, hown, hb⟩
      case round =>
        obtain ⟨k, m2, B2, d2, hk, rfl, rfl, hm2, hown2, hb2⟩ := hrel
        by_cases hlk : k < lb.length
        · obtain ⟨q, hq⟩ : ∃ q, lb[k]? = some q := ⟨_, List.getElem?_eq_getElem hlk⟩
          have hiq := HLB.out q (List.mem_of_getElem? hq)
          obtain ⟨b2, o2, rfl, hb2l, u0, u1⟩ := (HBv.out).at_ hq
          have HKB := Go.Lib.hid (fun (W : World) (h : Below w.heap.size w W) => (⟨(h.cell (p := ⟨b2, o2 + k * 2, none⟩) hb2l).trans u0, (h.cell (p := ⟨b2, o2 + k * 2 + 1, none⟩) hb2l).trans u1⟩ : W.cell? ⟨b2, o2 + k * 2, none⟩ = some (.int .i64 q.A) ∧ W.cell? ⟨b2, o2 + k * 2 + 1, none⟩ = some (.int .i64 q.B)))
          have x0 : (0 : Int) ≤ (k : Int) := by omega
          have x1 : (k : Int) < (lb.length : Int) := by omega
          have x1' : k + 1 ≤ lb.length := hlk
          have hI := bothI_take (p := p) (out := O) hq
          have hn2 := bothI_is HIP.out (lb.take k) O (fun r hr => HLB.out r (List.mem_of_mem_take hr)) HN0.out.1
          have hlen2 : (bothI p O (lb.take k)).length ≤ 10200 := by
            have := hn2.2.2
            rw [List.length_take] at this
            have := HN0.out.2
            have := HML.out
            omega
          have hcl : Low (capT p q) := by
            have h3 := HIP.out
            unfold InT at h3 hiq
            unfold Low capT
            dsimp only
            omega
          have CA := Go.Lib.hid (fun (W : World) (ho : Pts W (.slice B2 m2 d2) (bothI p O (lb.take k))) => radd_any (.slice B2 m2 d2) (bothI p O (lb.take k)) (capT p q) W ho (by omega) (norm_low hn2.1) hcl)
          have hcA : ((capT p q).A : Int) = max (p.A : Int) (q.A : Int) := by unfold capT; dsimp only; omega
          have hcB : ((capT p q).B : Int) = min (p.B : Int) (q.B : Int) := by unfold capT; dsimp only; omega
          rw [hcA, hcB] at CA
          have HCT := Go.Lib.hid (show ((capT p q).A ≤ (capT p q).B) ↔ (max (p.A : Int) (q.A : Int) ≤ min (p.B : Int) (q.B : Int)) by rw [← hcA, ← hcB]; omega)
          generalize capT p q = x at CA HCT hI
          generalize bothI p O (lb.take k) = R at hm2 hown2 hI CA
          obtain ⟨pA, hpA⟩ : ∃ y : Int, (p.A : Int) = y := ⟨_, rfl⟩
          obtain ⟨pB, hpB⟩ : ∃ y : Int, (p.B : Int) = y := ⟨_, rfl⟩
          obtain ⟨qA, hqA⟩ : ∃ y : Int, (q.A : Int) = y := ⟨_, rfl⟩
          obtain ⟨qB, hqB⟩ : ∃ y : Int, (q.B : Int) = y := ⟨_, rfl⟩
          have HKA2 := HKA
          rw [hpA, hpB] at HKA2 CA HCT
          rw [hqA, hqB] at HKB CA HCT
          have HI := Go.Lib.hid hI
          clear hq hiq hb2l u0 u1 hn2 hlen2 hcl hcA hcB hpA hpB hqA hqB hI hlk
          obtain ⟨c0, c1⟩ := HKA2.out _ hb2.out
          have HBX := Go.Lib.hid (hb2.out.alloc hb2.out.size (.cells #[.int .i64 pA, .int .i64 pB] 42))
          have HOX := Go.Lib.hid (own_keep hown2.out ((Below.refl _ wr).alloc (Nat.le_refl _) (.cells #[.int .i64 pA, .int .i64 pB] 42)))
          obtain ⟨e0, e1⟩ := HKB.out _ HBX.out
          obtain ⟨d0, d1⟩ := cells_two wr (.int .i64 pA) (.int .i64 pB) 42
          have HWS := Go.Lib.hid hb2.out.size
          have BR := Go.Lib.hid ((Below.refl wr.heap.size wr).alloc (Nat.le_refl _) (.cells #[.int .i64 pA, .int .i64 pB] 42))
          have f0 : (wr.alloc (.cells #[.int .i64 pA, .int .i64 pB] 42)).frozen? ⟨wr.heap.size, 0, none⟩ = false := by simp
          have f1 : (wr.alloc (.cells #[.int .i64 pA, .int .i64 pB] 42)).frozen? ⟨wr.heap.size, 1, none⟩ = false := by simp
          clear HOX
          go_wp2_with fail
          generalize wr.alloc (.cells #[.int .i64 pA, .int .i64 pB] 42) = W1 at HBX BR e0 e1 d0 d1 f0 f1 ⊢
          clear HBX c0 c1
          by_cases h3 : pA < qA
          · have g3 : decide (pA < qA) = true := decide_eq_true h3
            by_cases h4 : qB < pB
            · have g4 : decide (qB < pB) = true := decide_eq_true h4
              have mA : max pA qA = qA := by omega
              have mB : min pB qB = qB := by omega
              rw [mA, mB] at CA HCT
              clear mA mB
              go_quiet (fail)
              have BRx := Go.Lib.hid (BR.out.trans ((Mem.below_drewN W1 nq).mono BR.out.size))
              have HBx := Go.Lib.hid (hb2.out.trans (BRx.out.mono HWS.out))
              obtain ⟨e0x, e1x⟩ := HKB.out _ HBx.out
              replace f0 := keepsF (Mem.below_drewN W1 nq) d0 f0
              replace f1 := keepsF (Mem.below_drewN W1 nq) d1 f1
              replace d0 := keeps (Mem.below_drewN W1 nq) d0
              replace d1 := keeps (Mem.below_drewN W1 nq) d1
              clear BR e0 e1 HBx
              generalize W1.drewN nq = W2 at BRx d0 d1 f0 f1 e0x e1x ⊢
              have BR := BRx
              have e0 := e0x
              have e1 := e1x
              clear BRx e0x e1x
              go_wp2_with fail
              have d0y : (W2.setCell ⟨wr.heap.size, 0, none⟩ (.int .i64 qA)).cell? ⟨wr.heap.size, 0, none⟩ = some (.int .i64 qA) := World.cell?_setCell_same _ _ _ d0
              have d1y := (World.cell?_setCell_other W2 ⟨wr.heap.size, 0, none⟩ ⟨wr.heap.size, 1, none⟩ (.int .i64 qA) (by simp)).trans d1
              have BRx := Go.Lib.hid (BR.out.setCell (p := ⟨wr.heap.size, 0, none⟩) (Nat.le_refl _) (.int .i64 qA))
              have HBx := Go.Lib.hid (hb2.out.trans (BRx.out.mono HWS.out))
              obtain ⟨e0x, e1x⟩ := HKB.out _ HBx.out
              have f0y : (W2.setCell ⟨wr.heap.size, 0, none⟩ (.int .i64 qA)).frozen? ⟨wr.heap.size, 0, none⟩ = false := by simpa using f0
              have f1y : (W2.setCell ⟨wr.heap.size, 0, none⟩ (.int .i64 qA)).frozen? ⟨wr.heap.size, 1, none⟩ = false := by simpa using f1
              clear BR d0 d1 f0 f1 e0 e1 HBx
              generalize W2.setCell ⟨wr.heap.size, 0, none⟩ (.int .i64 qA) = W3 at BRx d0y d1y f0y f1y e0x e1x ⊢
              have BR := BRx
              have d0 := d0y
              have d1 := d1y
              have f0 := f0y
              have f1 := f1y
              have e0 := e0x
              have e1 := e1x
              clear BRx d0y d1y f0y f1y e0x e1x
              go_quiet (fail)
              have BRx := Go.Lib.hid (BR.out.trans ((Mem.below_drewN W3 nq).mono BR.out.size))
              have HBx := Go.Lib.hid (hb2.out.trans (BRx.out.mono HWS.out))
              obtain ⟨e0x, e1x⟩ := HKB.out _ HBx.out
              replace f0 := keepsF (Mem.below_drewN W3 nq) d0 f0
              replace f1 := keepsF (Mem.below_drewN W3 nq) d1 f1
              replace d0 := keeps (Mem.below_drewN W3 nq) d0
              replace d1 := keeps (Mem.below_drewN W3 nq) d1
              clear BR e0 e1 HBx
              generalize W3.drewN nq = W4 at BRx d0 d1 f0 f1 e0x e1x ⊢
              have BR := BRx
              have e0 := e0x
              have e1 := e1x
              clear BRx e0x e1x
              by_cases hle : qA ≤ qB
              · have gle : decide (qA ≤ qB) = true := decide_eq_true hle
                have HR := Go.Lib.hid (HI.out.trans (if_pos (HCT.out.2 hle)))
                clear HI
                go_upto_region 13 with fail
                have d1y : (W4.setCell ⟨wr.heap.size, 1, none⟩ (.int .i64 qB)).cell? ⟨wr.heap.size, 1, none⟩ = some (.int .i64 qB) := World.cell?_setCell_same _ _ _ d1
                have d0y := (World.cell?_setCell_other W4 ⟨wr.heap.size, 1, none⟩ ⟨wr.heap.size, 0, none⟩ (.int .i64 qB) (by simp)).trans d0
                have BRx := Go.Lib.hid (BR.out.setCell (p := ⟨wr.heap.size, 1, none⟩) (Nat.le_refl _) (.int .i64 qB))
                have HBx := Go.Lib.hid (hb2.out.trans (BRx.out.mono HWS.out))
                obtain ⟨e0x, e1x⟩ := HKB.out _ HBx.out
                have f0y : (W4.setCell ⟨wr.heap.size, 1, none⟩ (.int .i64 qB)).frozen? ⟨wr.heap.size, 0, none⟩ = false := by simpa using f0
                have f1y : (W4.setCell ⟨wr.heap.size, 1, none⟩ (.int .i64 qB)).frozen? ⟨wr.heap.size, 1, none⟩ = false := by simpa using f1
                clear BR d0 d1 f0 f1 e0 e1 HBx
                generalize W4.setCell ⟨wr.heap.size, 1, none⟩ (.int .i64 qB) = W5 at BRx d0y d1y f0y f1y e0x e1x ⊢
                have BR := BRx
                have d0 := d0y
                have d1 := d1y
                have f0 := f0y
                have f1 := f1y
                have e0 := e0x
                have e1 := e1x
                clear BRx d0y d1y f0y f1y e0x e1x
                go_wp2_with (go_at_call 21; refine (CA.out _ (pts_own (own_keep hown2.out BR.out) hm2.out)).mono ?_; rintro e w6 ⟨A6, c6, rfl, ho6, hb6⟩; have O6 := Go.Lib.hid (own_base ho6 (Nat.le_trans hb2.out.size BR.out.size)); have B6 := Go.Lib.hid ((hb2.out.trans (BR.out.mono HWS.out)).trans (hb6.mono (Nat.le_trans hb2.out.size BR.out.size))); clear ho6 hb6)
                go_roundw
                case rel => exact ⟨k + 1, _, A6, c6, x1', by go_num, rfl, Go.Lib.hid (by rw [HR.out]), Go.Lib.hid (by rw [HR.out]; exact O6.out), B6⟩
                case measure => simp [intOf]; omega
              · have gle : decide (qA ≤ qB) = false := decide_eq_false hle
                have HR := Go.Lib.hid (HI.out.trans (if_neg (fun h => hle (HCT.out.1 h))))
                clear HI
                go_upto_region 13 with fail
                have d1y : (W4.setCell ⟨wr.heap.size, 1, none⟩ (.int .i64 qB)).cell? ⟨wr.heap.size, 1, none⟩ = some (.int .i64 qB) := World.cell?_setCell_same _ _ _ d1
                have d0y := (World.cell?_setCell_other W4 ⟨wr.heap.size, 1, none⟩ ⟨wr.heap.size, 0, none⟩ (.int .i64 qB) (by simp)).trans d0
                have BRx := Go.Lib.hid (BR.out.setCell (p := ⟨wr.heap.size, 1, none⟩) (Nat.le_refl _) (.int .i64 qB))
                have HBx := Go.Lib.hid (hb2.out.trans (BRx.out.mono HWS.out))
                obtain ⟨e0x, e1x⟩ := HKB.out _ HBx.out
                have f0y : (W4.setCell ⟨wr.heap.size, 1, none⟩ (.int .i64 qB)).frozen? ⟨wr.heap.size, 0, none⟩ = false := by simpa using f0
                have f1y : (W4.setCell ⟨wr.heap.size, 1, none⟩ (.int .i64 qB)).frozen? ⟨wr.heap.size, 1, none⟩ = false := by simpa using f1
                clear BR d0 d1 f0 f1 e0 e1 HBx
                generalize W4.setCell ⟨wr.heap.size, 1, none⟩ (.int .i64 qB) = W5 at BRx d0y d1y f0y f1y e0x e1x ⊢
                have BR := BRx
                have d0 := d0y
                have d1 := d1y
                have f0 := f0y
                have f1 := f1y
                have e0 := e0x
                have e1 := e1x
                clear BRx d0y d1y f0y f1y e0x e1x
                go_wp2
                go_roundw
                case rel => exact ⟨k + 1, m2, _, _, x1', by go_num, rfl, Go.Lib.hid (by rw [HR.out]; exact hm2.out), Go.Lib.hid (by rw [HR.out]; exact own_keep hown2.out BR.out), Go.Lib.hid (hb2.out.trans (BR.out.mono HWS.out))⟩
                case measure => simp [intOf]; omega
            · have g4 : decide (qB < pB) = false := decide_eq_false h4
              have mA : max pA qA = qA := by omega
              have mB : min pB qB = pB := by omega
              rw [mA, mB] at CA HCT
              clear mA mB
              go_quiet (fail)
              have BRx := Go.Lib.hid (BR.out.trans ((Mem.below_drewN W1 nq).mono BR.out.size))
              have HBx := Go.Lib.hid (hb2.out.trans (BRx.out.mono HWS.out))
              obtain ⟨e0x, e1x⟩ := HKB.out _ HBx.out
              replace f0 := keepsF (Mem.below_drewN W1 nq) d0 f0
              replace f1 := keepsF (Mem.below_drewN W1 nq) d1 f1
              replace d0 := keeps (Mem.below_drewN W1 nq) d0
              replace d1 := keeps (Mem.below_drewN W1 nq) d1
              clear BR e0 e1 HBx
              generalize W1.drewN nq = W2 at BRx d0 d1 f0 f1 e0x e1x ⊢
              have BR := BRx
              have e0 := e0x
              have e1 := e1x
              clear BRx e0x e1x
              go_wp2_with fail
              have d0y : (W2.setCell ⟨wr.heap.size, 0, none⟩ (.int .i64 qA)).cell? ⟨wr.heap.size, 0, none⟩ = some (.int .i64 qA) := World.cell?_setCell_same _ _ _ d0
              have d1y := (World.cell?_setCell_other W2 ⟨wr.heap.size, 0, none⟩ ⟨wr.heap.size, 1, none⟩ (.int .i64 qA) (by simp)).trans d1
              have BRx := Go.Lib.hid (BR.out.setCell (p := ⟨wr.heap.size, 0, none⟩) (Nat.le_refl _) (.int .i64 qA))
              have HBx := Go.Lib.hid (hb2.out.trans (BRx.out.mono HWS.out))
              obtain ⟨e0x, e1x⟩ := HKB.out _ HBx.out
              have f0y : (W2.setCell ⟨wr.heap.size, 0, none⟩ (.int .i64 qA)).frozen? ⟨wr.heap.size, 0, none⟩ = false := by simpa using f0
              have f1y : (W2.setCell ⟨wr.heap.size, 0, none⟩ (.int .i64 qA)).frozen? ⟨wr.heap.size, 1, none⟩ = false := by simpa using f1
              clear BR d0 d1 f0 f1 e0 e1 HBx
              generalize W2.setCell ⟨wr.heap.size, 0, none⟩ (.int .i64 qA) = W3 at BRx d0y d1y f0y f1y e0x e1x ⊢
              have BR := BRx
              have d0 := d0y
              have d1 := d1y
              have f0 := f0y
              have f1 := f1y
              have e0 := e0x
              have e1 := e1x
              clear BRx d0y d1y f0y f1y e0x e1x
              go_quiet (fail)
              have BRx := Go.Lib.hid (BR.out.trans ((Mem.below_drewN W3 nq).mono BR.out.size))
              have HBx := Go.Lib.hid (hb2.out.trans (BRx.out.mono HWS.out))
              obtain ⟨e0x, e1x⟩ := HKB.out _ HBx.out
              replace f0 := keepsF (Mem.below_drewN W3 nq) d0 f0
              replace f1 := keepsF (Mem.below_drewN W3 nq) d1 f1
              replace d0 := keeps (Mem.below_drewN W3 nq) d0
              replace d1 := keeps (Mem.below_drewN W3 nq) d1
              clear BR e0 e1 HBx
              generalize W3.drewN nq = W4 at BRx d0 d1 f0 f1 e0x e1x ⊢
              have BR := BRx
              have e0 := e0x
              have e1 := e1x
              clear BRx e0x e1x
              by_cases hle : qA ≤ pB
              · have gle : decide (qA ≤ pB) = true := decide_eq_true hle
                have HR := Go.Lib.hid (HI.out.trans (if_pos (HCT.out.2 hle)))
                clear HI
                go_wp2_with (go_at_call 21; refine (CA.out _ (pts_own (own_keep hown2.out BR.out) hm2.out)).mono ?_; rintro e w6 ⟨A6, c6, rfl, ho6, hb6⟩; have O6 := Go.Lib.hid (own_base ho6 (Nat.le_trans hb2.out.size BR.out.size)); have B6 := Go.Lib.hid ((hb2.out.trans (BR.out.mono HWS.out)).trans (hb6.mono (Nat.le_trans hb2.out.size BR.out.size))); clear ho6 hb6)
                go_roundw
                case rel => exact ⟨k + 1, _, A6, c6, x1', by go_num, rfl, Go.Lib.hid (by rw [HR.out]), Go.Lib.hid (by rw [HR.out]; exact O6.out), B6⟩
                case measure => simp [intOf]; omega
              · have gle : decide (qA ≤ pB) = false := decide_eq_false hle
                have HR := Go.Lib.hid (HI.out.trans (if_neg (fun h => hle (HCT.out.1 h))))
                clear HI
                go_wp2
                go_roundw
                case rel => exact ⟨k + 1, m2, _, _, x1', by go_num, rfl, Go.Lib.hid (by rw [HR.out]; exact hm2.out), Go.Lib.hid (by rw [HR.out]; exact own_keep hown2.out BR.out), Go.Lib.hid (hb2.out.trans (BR.out.mono HWS.out))⟩
                case measure => simp [intOf]; omega
          · have g3 : decide (pA < qA) = false := decide_eq_false h3
            by_cases h4 : qB < pB
            · have g4 : decide (qB < pB) = true := decide_eq_true h4
              have mA : max pA qA = pA := by omega
              have mB : min pB qB = qB := by omega
              rw [mA, mB] at CA HCT
              clear mA mB
              go_quiet (fail)
              have BRx := Go.Lib.hid (BR.out.trans ((Mem.below_drewN W1 nq).mono BR.out.size))
              have HBx := Go.Lib.hid (hb2.out.trans (BRx.out.mono HWS.out))
              obtain ⟨e0x, e1x⟩ := HKB.out _ HBx.out
              replace f0 := keepsF (Mem.below_drewN W1 nq) d0 f0
              replace f1 := keepsF (Mem.below_drewN W1 nq) d1 f1
              replace d0 := keeps (Mem.below_drewN W1 nq) d0
              replace d1 := keeps (Mem.below_drewN W1 nq) d1
              clear BR e0 e1 HBx
              generalize W1.drewN nq = W2 at BRx d0 d1 f0 f1 e0x e1x ⊢
              have BR := BRx
              have e0 := e0x
              have e1 := e1x
              clear BRx e0x e1x
              go_wp2_with fail
              go_quiet (fail)
              have BRx := Go.Lib.hid (BR.out.trans ((Mem.below_drewN W2 nq).mono BR.out.size))
              have HBx := Go.Lib.hid (hb2.out.trans (BRx.out.mono HWS.out))
              obtain ⟨e0x, e1x⟩ := HKB.out _ HBx.out
              replace f0 := keepsF (Mem.below_drewN W2 nq) d0 f0
              replace f1 := keepsF (Mem.below_drewN W2 nq) d1 f1
              replace d0 := keeps (Mem.below_drewN W2 nq) d0
              replace d1 := keeps (Mem.below_drewN W2 nq) d1
              clear BR e0 e1 HBx
              generalize W2.drewN nq = W4 at BRx d0 d1 f0 f1 e0x e1x ⊢
              have BR := BRx
              have e0 := e0x
              have e1 := e1x
              clear BRx e0x e1x
              by_cases hle : pA ≤ qB
              · have gle : decide (pA ≤ qB) = true := decide_eq_true hle
                have HR := Go.Lib.hid (HI.out.trans (if_pos (HCT.out.2 hle)))
                clear HI
                go_upto_region 13 with fail
                have d1y : (W4.setCell ⟨wr.heap.size, 1, none⟩ (.int .i64 qB)).cell? ⟨wr.heap.size, 1, none⟩ = some (.int .i64 qB) := World.cell?_setCell_same _ _ _ d1
                have d0y := (World.cell?_setCell_other W4 ⟨wr.heap.size, 1, none⟩ ⟨wr.heap.size, 0, none⟩ (.int .i64 qB) (by simp)).trans d0
                have BRx := Go.Lib.hid (BR.out.setCell (p := ⟨wr.heap.size, 1, none⟩) (Nat.le_refl _) (.int .i64 qB))
                have HBx := Go.Lib.hid (hb2.out.trans (BRx.out.mono HWS.out))
                obtain ⟨e0x, e1x⟩ := HKB.out _ HBx.out
                have f0y : (W4.setCell ⟨wr.heap.size, 1, none⟩ (.int .i64 qB)).frozen? ⟨wr.heap.size, 0, none⟩ = false := by simpa using f0
                have f1y : (W4.setCell ⟨wr.heap.size, 1, none⟩ (.int .i64 qB)).frozen? ⟨wr.heap.size, 1, none⟩ = false := by simpa using f1
                clear BR d0 d1 f0 f1 e0 e1 HBx
                generalize W4.setCell ⟨wr.heap.size, 1, none⟩ (.int .i64 qB) = W5 at BRx d0y d1y f0y f1y e0x e1x ⊢
                have BR := BRx
                have d0 := d0y
                have d1 := d1y
                have f0 := f0y
                have f1 := f1y
                have e0 := e0x
                have e1 := e1x
                clear BRx d0y d1y f0y f1y e0x e1x
                go_wp2_with (go_at_call 21; refine (CA.out _ (pts_own (own_keep hown2.out BR.out) hm2.out)).mono ?_; rintro e w6 ⟨A6, c6, rfl, ho6, hb6⟩; have O6 := Go.Lib.hid (own_base ho6 (Nat.le_trans hb2.out.size BR.out.size)); have B6 := Go.Lib.hid ((hb2.out.trans (BR.out.mono HWS.out)).trans (hb6.mono (Nat.le_trans hb2.out.size BR.out.size))); clear ho6 hb6)
                go_roundw
                case rel => exact ⟨k + 1, _, A6, c6, x1', by go_num, rfl, Go.Lib.hid (by rw [HR.out]), Go.Lib.hid (by rw [HR.out]; exact O6.out), B6⟩
                case measure => simp [intOf]; omega
              · have gle : decide (pA ≤ qB) = false := decide_eq_false hle
                have HR := Go.Lib.hid (HI.out.trans (if_neg (fun h => hle (HCT.out.1 h))))
                clear HI
                go_upto_region 13 with fail
                have d1y : (W4.setCell ⟨wr.heap.size, 1, none⟩ (.int .i64 qB)).cell? ⟨wr.heap.size, 1, none⟩ = some (.int .i64 qB) := World.cell?_setCell_same _ _ _ d1
                have d0y := (World.cell?_setCell_other W4 ⟨wr.heap.size, 1, none⟩ ⟨wr.heap.size, 0, none⟩ (.int .i64 qB) (by simp)).trans d0
                have BRx := Go.Lib.hid (BR.out.setCell (p := ⟨wr.heap.size, 1, none⟩) (Nat.le_refl _) (.int .i64 qB))
                have HBx := Go.Lib.hid (hb2.out.trans (BRx.out.mono HWS.out))
                obtain ⟨e0x, e1x⟩ := HKB.out _ HBx.out
                have f0y : (W4.setCell ⟨wr.heap.size, 1, none⟩ (.int .i64 qB)).frozen? ⟨wr.heap.size, 0, none⟩ = false := by simpa using f0
                have f1y : (W4.setCell ⟨wr.heap.size, 1, none⟩ (.int .i64 qB)).frozen? ⟨wr.heap.size, 1, none⟩ = false := by simpa using f1
                clear BR d0 d1 f0 f1 e0 e1 HBx
                generalize W4.setCell ⟨wr.heap.size, 1, none⟩ (.int .i64 qB) = W5 at BRx d0y d1y f0y f1y e0x e1x ⊢
                have BR := BRx
                have d0 := d0y
                have d1 := d1y
                have f0 := f0y
                have f1 := f1y
                have e0 := e0x
                have e1 := e1x
                clear BRx d0y d1y f0y f1y e0x e1x
                go_wp2
                go_roundw
                case rel => exact ⟨k + 1, m2, _, _, x1', by go_num, rfl, Go.Lib.hid (by rw [HR.out]; exact hm2.out), Go.Lib.hid (by rw [HR.out]; exact own_keep hown2.out BR.out), Go.Lib.hid (hb2.out.trans (BR.out.mono HWS.out))⟩
                case measure => simp [intOf]; omega
            · have g4 : decide (qB < pB) = false := decide_eq_false h4
              have mA : max pA qA = pA := by omega
              have mB : min pB qB = pB := by omega
              rw [mA, mB] at CA HCT
              clear mA mB
              go_quiet (fail)
              have BRx := Go.Lib.hid (BR.out.trans ((Mem.below_drewN W1 nq).mono BR.out.size))
              have HBx := Go.Lib.hid (hb2.out.trans (BRx.out.mono HWS.out))
              obtain ⟨e0x, e1x⟩ := HKB.out _ HBx.out
              replace f0 := keepsF (Mem.below_drewN W1 nq) d0 f0
              replace f1 := keepsF (Mem.below_drewN W1 nq) d1 f1
              replace d0 := keeps (Mem.below_drewN W1 nq) d0
              replace d1 := keeps (Mem.below_drewN W1 nq) d1
              clear BR e0 e1 HBx
              generalize W1.drewN nq = W2 at BRx d0 d1 f0 f1 e0x e1x ⊢
              have BR := BRx
              have e0 := e0x
              have e1 := e1x
              clear BRx e0x e1x
              go_wp2_with fail
              go_quiet (fail)
              have BRx := Go.Lib.hid (BR.out.trans ((Mem.below_drewN W2 nq).mono BR.out.size))
              have HBx := Go.Lib.hid (hb2.out.trans (BRx.out.mono HWS.out))
              obtain ⟨e0x, e1x⟩ := HKB.out _ HBx.out
              replace f0 := keepsF (Mem.below_drewN W2 nq) d0 f0
              replace f1 := keepsF (Mem.below_drewN W2 nq) d1 f1
              replace d0 := keeps (Mem.below_drewN W2 nq) d0
              replace d1 := keeps (Mem.below_drewN W2 nq) d1
              clear BR e0 e1 HBx
              generalize W2.drewN nq = W4 at BRx d0 d1 f0 f1 e0x e1x ⊢
              have BR := BRx
              have e0 := e0x
              have e1 := e1x
              clear BRx e0x e1x
              by_cases hle : pA ≤ pB
              · have gle : decide (pA ≤ pB) = true := decide_eq_true hle
                have HR := Go.Lib.hid (HI.out.trans (if_pos (HCT.out.2 hle)))
                clear HI
                go_wp2_with (go_at_call 21; refine (CA.out _ (pts_own (own_keep hown2.out BR.out) hm2.out)).mono ?_; rintro e w6 ⟨A6, c6, rfl, ho6, hb6⟩; have O6 := Go.Lib.hid (own_base ho6 (Nat.le_trans hb2.out.size BR.out.size)); have B6 := Go.Lib.hid ((hb2.out.trans (BR.out.mono HWS.out)).trans (hb6.mono (Nat.le_trans hb2.out.size BR.out.size))); clear ho6 hb6)
                go_roundw
                case rel => exact ⟨k + 1, _, A6, c6, x1', by go_num, rfl, Go.Lib.hid (by rw [HR.out]), Go.Lib.hid (by rw [HR.out]; exact O6.out), B6⟩
                case measure => simp [intOf]; omega
              · have gle : decide (pA ≤ pB) = false := decide_eq_false hle
                have HR := Go.Lib.hid (HI.out.trans (if_neg (fun h => hle (HCT.out.1 h))))
                clear HI
                go_wp2
                go_roundw
                case rel => exact ⟨k + 1, m2, _, _, x1', by go_num, rfl, Go.Lib.hid (by rw [HR.out]; exact hm2.out), Go.Lib.hid (by rw [HR.out]; exact own_keep hown2.out BR.out), Go.Lib.hid (hb2.out.trans (BR.out.mono HWS.out))⟩
                case measure => simp [intOf]; omega
        · have x1 : decide ((k : Int) < (lb.length : Int)) = false := decide_eq_false (by omega)
          have HJ := Go.Lib.hid (show bothI p O (lb.take k) = bothI p O lb by rw [List.take_of_length_le (by omega)])
          rw [HJ.out, ← HT.out] at hm2 hown2
          go_wp2
          go_roundw
          case rel => exact ⟨i + 1, m2, B2, d2, z1', by go_num, rfl, hm2, hown2, hb2⟩
          case measure => simp [intOf]; omega
    · have z1 : decide ((i : Int) < (la.length : Int)) = false := decide_eq_false (by omega)
      have HJ := Go.Lib.hid (show la.take i = la from List.take_of_length_le (by omega))
      rw [HJ.out] at hm hown
      go_wp2
      go_ret
      exact ⟨B, d, by rw [← hm.out]; rfl, by rw [← hm.out]; exact hown.out, hb.out⟩
end Go.Proofs.YtgjdpmpbldofpaaDoor.Wlk
