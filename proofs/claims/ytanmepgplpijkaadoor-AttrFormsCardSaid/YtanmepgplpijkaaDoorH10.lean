/- Whether a path is good, and whether it may be told: the reference's answers, yes or no. -/
import Derived.Test.YtanmepgplpijkaaDoorH03
import Derived.Test.YtanmepgplpijkaaDoorH02
import Derived.BigQuiet
import Derived.BigRegion
import Derived.RegionTactic
namespace Go.Proofs.YtanmepgplpijkaaDoor.Att
open Go.RowKit Mem Segm Rise
def roomy (p : List Piece) (i : Nat) : Bool := decide (0 < i) && (match p[i - 1]? with | some r => decide (r.1 = 2) && decide (r.2.length < 255) | none => false)
def okAt (p : List Piece) (i : Nat) : Bool := match p[i]? with
  | some s => decide (1 ≤ s.2.length) && decide (s.2.length ≤ 255) && ((decide (s.1 = 1) && decide (setOf s.2 = s.2)) || (decide (s.1 = 2) && !roomy p i))
  | none => true
def okTo (p : List Piece) : Nat → Bool
  | 0 => true
  | i + 1 => okTo p i && okAt p i
def goodP (p : List Piece) : Bool := decide (p.length ≤ 100) && okTo p p.length
theorem okTo_bad {p : List Piece} {i : Nat} (h : okAt p i = false) : ∀ {n : Nat}, i < n → okTo p n = false
  | 0, hn => by omega
  | n + 1, hn => by
    unfold okTo
    by_cases e : i = n
    · subst e; rw [h]; simp
    · rw [okTo_bad h (by omega)]; simp
theorem keepsW {W w1 : World} (hb : Below W.heap.size W w1) {a : Addr} {v : Value} (h : W.cell? a = some v) : w1.cell? a = some v :=
  (hb.cell (block_lt_of_cell h)).trans h
set_option maxRecDepth 100000 in
set_option maxHeartbeats 8000000 in
theorem refGood4 (v : Value) (p : List Piece) (w : World) (hv : Segs w v p) :
    Calls Tryd.prog 55 #[v] w (Tells (.bool (goodP p)) w) := by
  have HV := Go.Lib.hid hv
  obtain ⟨A, c, rfl, hlc, hc⟩ := hv.form
  have HB := Go.Lib.hid (Below.refl w.heap.size w)
  clear hv
  by_cases hp : p.length ≤ 100
  case neg =>
    have e : goodP p = false := by unfold goodP; rw [decide_eq_false hp]; rfl
    rw [e]
    have z : (100 : Int) < (p.length : Int) := by omega
    go_enter Tryd.func55, Tryd.ntmps55
    go_wp2
    go_ret
    exact ⟨rfl, HB.out⟩
  have eg : goodP p = okTo p p.length := by unfold goodP; rw [decide_eq_true hp]; rfl
  rw [eg]
  have hpd : decide ((100 : Int) < (p.length : Int)) = false := decide_eq_false (by omega)
  clear eg
  go_enter Tryd.func55, Tryd.ntmps55
  go_wp2
  go_loopw [3] (fun v3 wr => ∃ i : Nat, i ≤ p.length ∧ v3 = .int .i64 i ∧ Hid (okTo p i = true) ∧ Hid (Below w.heap.size w wr)) (fun v3 _ => p.length - (intOf v3).toNat)
  case atStart => exact ⟨0, Nat.zero_le _, rfl, Go.Lib.hid rfl, HB⟩
  case round =>
    obtain ⟨i, hi, rfl, hok, hbw⟩ := hrel
    by_cases hlt : i < p.length
    · obtain ⟨s, hs⟩ : ∃ s, p[i]? = some s := ⟨_, List.getElem?_eq_getElem hlt⟩
      obtain ⟨b, off, x, rfl, hbl, k1, k2, hx⟩ := (HV.out.keep hbw.out).at_ hs
      obtain ⟨Ax, cx, rfl, hlx, hcx, -, -⟩ := hx.open_
      obtain ⟨ks, hks⟩ : ∃ ks, ks = s.1 := ⟨_, rfl⟩
      obtain ⟨m, hm⟩ : ∃ m, m = s.2.length := ⟨_, rfl⟩
      rw [← hks] at k1
      rw [← hm] at k2
      have z0 : (0 : Int) ≤ (i : Int) := by omega
      have z1 : (i : Int) < (p.length : Int) := by omega
      have HAT : Hid (okAt p i = (decide (1 ≤ m) && decide (m ≤ 255) && ((decide (ks = 1) && decide (setOf s.2 = s.2)) || (decide (ks = 2) && !roomy p i)))) := Go.Lib.hid (by unfold okAt; rw [hs, hm, hks])
      have HNX : Hid (okTo p (i + 1) = okAt p i) := Go.Lib.hid (by show (okTo p i && okAt p i) = _; rw [hok.out]; rfl)
      by_cases g1 : (m : Int) < 1
      · have HNO : Hid (okTo p p.length = false) := Go.Lib.hid (okTo_bad (by rw [HAT.out, decide_eq_false (show ¬ 1 ≤ m by omega)]; rfl) hlt)
        clear hs hx hks hm HAT HNX
        go_wp2
        go_ret
        rw [HNO.out]
        exact ⟨rfl, hbw.out⟩
      · have m1 : 1 ≤ m := by omega
        have d1 : decide ((m : Int) < 1) = false := decide_eq_false g1
        by_cases g2 : (255 : Int) < m
        · have HNO : Hid (okTo p p.length = false) := Go.Lib.hid (okTo_bad (by rw [HAT.out, decide_eq_false (show ¬ m ≤ 255 by omega)]; simp) hlt)
          clear hs hx hks hm HAT HNX m1 g1
          go_wp2
          go_ret
          rw [HNO.out]
          exact ⟨rfl, hbw.out⟩
        · have d2 : decide ((255 : Int) < (m : Int)) = false := decide_eq_false g2
          have hm3 : m ≤ 255 := by omega
          have HA2 : Hid (okAt p i = ((decide (ks = 1) && decide (setOf s.2 = s.2)) || (decide (ks = 2) && !roomy p i))) := Go.Lib.hid (by rw [HAT.out, decide_eq_true m1, decide_eq_true hm3]; rfl)
          clear HAT m1 g1 g2
          by_cases hk1 : ks = 1
          · have HA3 : Hid (okAt p i = decide (setOf s.2 = s.2)) := Go.Lib.hid (by rw [HA2.out, hk1]; simp)
            clear HA2
            subst hk1
            have hl1 : s.2.length ≤ 1000 := by omega
            rw [← hm] at hx
            have HX := Go.Lib.hid hx
            have HS := Go.Lib.hid (fun y (hy : y ∈ setOf s.2) => hx.open_.choose_spec.choose_spec.2.2.2.1 y ((mem_setOf _ y).1 hy))
            have CS := Go.Lib.hid (fun (W : World) (h : Below wr.heap.size wr W) => Nums.refSet_own _ s.2 W (HX.out.keep h) hl1)
            have CM := Go.Lib.hid (fun (va : Value) (W : World) (h : U32s W va (setOf s.2)) (hb : Below wr.heap.size wr W) => Nums.refSame_any va _ _ s.2 W h (HX.out.keep hb))
            have HKC := Go.Lib.hid (fun (W : World) (h : Below wr.heap.size wr W) => (⟨keepsW h k1, keepsW h k2⟩ : W.cell? ⟨b, off + i * 2, none⟩ = some (.int .i64 1) ∧ W.cell? ⟨b, off + i * 2 + 1, none⟩ = some (.slice Ax m cx)))
            clear hs hx hks hm hl1
            cases hsm : decide (setOf s.2 = s.2) with
            | true =>
              rw [hsm] at CM HA3
              go_wp2
              have BW := Go.Lib.hid ((Below.refl wr.heap.size wr).drew)
              clear k1 k2
              refine wp_region_noPanic ?_
              refine wp_region_held_drew (S := (fun w' => w'.cell? ⟨b, off + i * 2, none⟩ = some (.int .i64 1) ∧ w'.cell? ⟨b, off + i * 2 + 1, none⟩ = some (.slice Ax m cx))) (by kernel_rfl) (HKC.out _ BW.out) (fun hHeld => ?_)
              refine wpAnyH_take (i := 0) (oi := ⟨some 42, .move (.tmp 0), 22, "ref.go:59", #[], none⟩) (v := ?_) rfl (by kernel_rfl) (by kernel_rfl) (by kernel_rfl) (fun _ _ _ h => h) (Or.inl ⟨by rfl, ?_⟩) hHeld ?_
              rotate_left
              · (intro w hSw; (try dsimp only at hSw); go_simp)
                try with_reducible rfl
              try simp only [Act.put, List.setIfInBounds_toArray, List.set_cons_zero, List.set_cons_succ]
              refine wpAnyH_take (i := 1) (oi := ⟨some 43, .move (.tmp 3), 3, "ref.go:59", #[], none⟩) (v := ?_) rfl (by kernel_rfl) (by kernel_rfl) (by kernel_rfl) (fun _ _ _ h => h) (Or.inl ⟨by rfl, ?_⟩) hHeld ?_
              rotate_left
              · (intro w hSw; (try dsimp only at hSw); go_simp)
                try with_reducible rfl
              try simp only [Act.put, List.setIfInBounds_toArray, List.set_cons_zero, List.set_cons_succ]
              refine wpAnyH_take (i := 2) (oi := ⟨some 44, .indexAddr 22 (.tmp 42) (.tmp 43), 0, "ref.go:59", #[⟨0, .data⟩, ⟨1, .data⟩], none⟩) (v := ?_) rfl (by kernel_rfl) (by kernel_rfl) (by kernel_rfl) (fun _ _ _ h => h) (Or.inl ⟨by rfl, ?_⟩) hHeld ?_
              rotate_left
              · (intro w hSw; (try dsimp only at hSw); go_simp)
                try with_reducible rfl
              try simp only [Act.put, List.setIfInBounds_toArray, List.set_cons_zero, List.set_cons_succ]
              refine wpAnyH_take (i := 3) (oi := ⟨some 45, .fieldAddr 78 (.tmp 44) 0, 0, "ref.go:59", #[⟨2, .data⟩], none⟩) (v := ?_) rfl (by kernel_rfl) (by kernel_rfl) (by kernel_rfl) (fun _ _ _ h => h) (Or.inl ⟨by rfl, ?_⟩) hHeld ?_
              rotate_left
              · (intro w hSw; (try dsimp only at hSw); go_simp)
                try with_reducible rfl
              try simp only [Act.put, List.setIfInBounds_toArray, List.set_cons_zero, List.set_cons_succ]
              refine wpAnyH_take (i := 4) (oi := ⟨some 46, .load 3 (.tmp 45), 3, "ref.go:59", #[⟨3, .data⟩], none⟩) (v := ?_) rfl (by kernel_rfl) (by kernel_rfl) (by kernel_rfl) (fun _ _ _ h => h) (Or.inl ⟨by rfl, ?_⟩) hHeld ?_
              rotate_left
              · (intro w hSw; (try dsimp only at hSw); go_simp)
                try with_reducible rfl
              try simp only [Act.put, List.setIfInBounds_toArray, List.set_cons_zero, List.set_cons_succ]
              refine wpAnyH_take (i := 5) (oi := ⟨some 47, .binOp .eql 3 (.tmp 46) (.const (.int .i64 1)) 3, 4, "ref.go:59", #[⟨4, .data⟩], none⟩) (v := ?_) rfl (by kernel_rfl) (by kernel_rfl) (by kernel_rfl) (fun _ _ _ h => h) (Or.inl ⟨by rfl, ?_⟩) hHeld ?_
              rotate_left
              · (intro w hSw; (try dsimp only at hSw); go_simp)
                try with_reducible rfl
              try simp only [Act.put, List.setIfInBounds_toArray, List.set_cons_zero, List.set_cons_succ]
              refine wpAnyH_take (i := 6) (oi := ⟨some 48, .move (.tmp 47), 4, "ref.go:59", #[⟨5, .data⟩], none⟩) (v := ?_) rfl (by kernel_rfl) (by kernel_rfl) (by kernel_rfl) (fun _ _ _ h => h) (Or.inl ⟨by rfl, ?_⟩) hHeld ?_
              rotate_left
              · (intro w hSw; (try dsimp only at hSw); go_simp)
                try with_reducible rfl
              try simp only [Act.put, List.setIfInBounds_toArray, List.set_cons_zero, List.set_cons_succ]
              refine wpAnyH_take (i := 7) (oi := ⟨some 49, .move (.tmp 0), 22, "ref.go:59", #[⟨6, .guard⟩], some (6, true)⟩) (v := ?_) rfl (by kernel_rfl) (by kernel_rfl) (by kernel_rfl) (fun _ _ _ h => h) (Or.inl ⟨by rfl, ?_⟩) hHeld ?_
              rotate_left
              · (intro w hSw; (try dsimp only at hSw); go_simp)
                try with_reducible rfl
              try simp only [Act.put, List.setIfInBounds_toArray, List.set_cons_zero, List.set_cons_succ]
              refine wpAnyH_take (i := 8) (oi := ⟨some 50, .move (.tmp 3), 3, "ref.go:59", #[⟨6, .guard⟩], some (6, true)⟩) (v := ?_) rfl (by kernel_rfl) (by kernel_rfl) (by kernel_rfl) (fun _ _ _ h => h) (Or.inl ⟨by rfl, ?_⟩) hHeld ?_
              rotate_left
              · (intro w hSw; (try dsimp only at hSw); go_simp)
                try with_reducible rfl
              try simp only [Act.put, List.setIfInBounds_toArray, List.set_cons_zero, List.set_cons_succ]
              refine wpAnyH_take (i := 9) (oi := ⟨some 51, .indexAddr 22 (.tmp 49) (.tmp 50), 0, "ref.go:59", #[⟨7, .data⟩, ⟨8, .data⟩, ⟨6, .guard⟩], some (6, true)⟩) (v := ?_) rfl (by kernel_rfl) (by kernel_rfl) (by kernel_rfl) (fun _ _ _ h => h) (Or.inl ⟨by rfl, ?_⟩) hHeld ?_
              rotate_left
              · (intro w hSw; (try dsimp only at hSw); go_simp)
                try with_reducible rfl
              try simp only [Act.put, List.setIfInBounds_toArray, List.set_cons_zero, List.set_cons_succ]
              refine wpAnyH_take (i := 10) (oi := ⟨some 52, .fieldAddr 78 (.tmp 51) 1, 0, "ref.go:59", #[⟨9, .data⟩, ⟨6, .guard⟩], some (6, true)⟩) (v := ?_) rfl (by kernel_rfl) (by kernel_rfl) (by kernel_rfl) (fun _ _ _ h => h) (Or.inl ⟨by rfl, ?_⟩) hHeld ?_
              rotate_left
              · (intro w hSw; (try dsimp only at hSw); go_simp)
                try with_reducible rfl
              try simp only [Act.put, List.setIfInBounds_toArray, List.set_cons_zero, List.set_cons_succ]
              refine wpAnyH_take (i := 11) (oi := ⟨some 53, .load 24 (.tmp 52), 24, "ref.go:59", #[⟨10, .data⟩, ⟨6, .guard⟩], some (6, true)⟩) (v := ?_) rfl (by kernel_rfl) (by kernel_rfl) (by kernel_rfl) (fun _ _ _ h => h) (Or.inl ⟨by rfl, ?_⟩) hHeld ?_
              rotate_left
              · (intro w hSw; (try dsimp only at hSw); go_simp)
                try with_reducible rfl
              try simp only [Act.put, List.setIfInBounds_toArray, List.set_cons_zero, List.set_cons_succ]
              refine wpAnyH_take (i := 13) (oi := ⟨some 55, .move (.tmp 0), 22, "ref.go:59", #[⟨6, .guard⟩], some (6, true)⟩) (v := ?_) rfl (by kernel_rfl) (by kernel_rfl) (by kernel_rfl) (fun _ _ _ h => h) (Or.inl ⟨by rfl, ?_⟩) hHeld ?_
              rotate_left
              · (intro w hSw; (try dsimp only at hSw); go_simp)
                try with_reducible rfl
              try simp only [Act.put, List.setIfInBounds_toArray, List.set_cons_zero, List.set_cons_succ]
              refine wpAnyH_take (i := 14) (oi := ⟨some 56, .move (.tmp 3), 3, "ref.go:59", #[⟨6, .guard⟩], some (6, true)⟩) (v := ?_) rfl (by kernel_rfl) (by kernel_rfl) (by kernel_rfl) (fun _ _ _ h => h) (Or.inl ⟨by rfl, ?_⟩) hHeld ?_
              rotate_left
              · (intro w hSw; (try dsimp only at hSw); go_simp)
                try with_reducible rfl
              try simp only [Act.put, List.setIfInBounds_toArray, List.set_cons_zero, List.set_cons_succ]
              refine wpAnyH_take (i := 15) (oi := ⟨some 57, .indexAddr 22 (.tmp 55) (.tmp 56), 0, "ref.go:59", #[⟨13, .data⟩, ⟨14, .data⟩, ⟨6, .guard⟩], some (6, true)⟩) (v := ?_) rfl (by kernel_rfl) (by kernel_rfl) (by kernel_rfl) (fun _ _ _ h => h) (Or.inl ⟨by rfl, ?_⟩) hHeld ?_
              rotate_left
              · (intro w hSw; (try dsimp only at hSw); go_simp)
                try with_reducible rfl
              try simp only [Act.put, List.setIfInBounds_toArray, List.set_cons_zero, List.set_cons_succ]
              refine wpAnyH_take (i := 16) (oi := ⟨some 58, .fieldAddr 78 (.tmp 57) 1, 0, "ref.go:59", #[⟨15, .data⟩, ⟨6, .guard⟩], some (6, true)⟩) (v := ?_) rfl (by kernel_rfl) (by kernel_rfl) (by kernel_rfl) (fun _ _ _ h => h) (Or.inl ⟨by rfl, ?_⟩) hHeld ?_
              rotate_left
              · (intro w hSw; (try dsimp only at hSw); go_simp)
                try with_reducible rfl
              try simp only [Act.put, List.setIfInBounds_toArray, List.set_cons_zero, List.set_cons_succ]
              refine wpAnyH_take (i := 17) (oi := ⟨some 59, .load 24 (.tmp 58), 24, "ref.go:59", #[⟨16, .data⟩, ⟨6, .guard⟩], some (6, true)⟩) (v := ?_) rfl (by kernel_rfl) (by kernel_rfl) (by kernel_rfl) (fun _ _ _ h => h) (Or.inl ⟨by rfl, ?_⟩) hHeld ?_
              rotate_left
              · (intro w hSw; (try dsimp only at hSw); go_simp)
                try with_reducible rfl
              try simp only [Act.put, List.setIfInBounds_toArray, List.set_cons_zero, List.set_cons_succ]
              refine wpAnyH_ready (rs := [12]) (by kernel_rfl) (by simp) ?_
              refine AllReadyH.cons (o := ⟨some 54, .call { callee := .value (.func 39), args := #[.tmp 53], argTypes := #[24] }, 24, "ref.go:59", #[⟨11, .data⟩, ⟨6, .chain⟩, ⟨6, .guard⟩], some (6, true)⟩) rfl (fun K hK => ?_) AllReadyH.nil
              go_simp
              go_at_call 39; refine (CS.out _ BW.out).mono ?_; rintro e x ⟨v1, rfl, ho, hb⟩; have U := Go.Lib.hid (U32s.of_own ho HS.out); replace BW := Go.Lib.hid (BW.out.trans (hb.mono BW.out.size)); clear ho hb
              (try go_wp2_with fail)
              refine hK.out _ _ (HKC.out _ BW.out) (fun hHeld1 => ?_)
              clear hK K
              try simp only [Act.put, List.setIfInBounds_toArray, List.set_cons_zero, List.set_cons_succ]
              refine wpAnyH_ready (rs := [18]) (by kernel_rfl) (by simp) ?_
              refine AllReadyH.cons (o := ⟨some 60, .call { callee := .value (.func 35), args := #[.tmp 54, .tmp 59], argTypes := #[24, 24] }, 4, "ref.go:59", #[⟨12, .data⟩, ⟨17, .data⟩, ⟨12, .chain⟩, ⟨6, .guard⟩], some (6, true)⟩) rfl (fun K hK => ?_) AllReadyH.nil
              go_simp
              go_at_call 35; refine (CM.out _ _ U.out BW.out).mono ?_; rintro e x ⟨rfl, hb⟩; replace BW := Go.Lib.hid (BW.out.trans (hb.mono BW.out.size)); clear hb
              (try go_wp2_with fail)
              refine hK.out _ _ (HKC.out _ BW.out) (fun hHeld2 => ?_)
              clear hK K
              try simp only [Act.put, List.setIfInBounds_toArray, List.set_cons_zero, List.set_cons_succ]
              refine wpAnyH_take (i := 19) (oi := ⟨some 61, .unOp .not 4 (.tmp 60), 4, "ref.go:59", #[⟨18, .data⟩, ⟨6, .guard⟩], some (6, true)⟩) (v := ?_) rfl (by kernel_rfl) (by kernel_rfl) (by kernel_rfl) (fun _ _ _ h => h) (Or.inl ⟨by rfl, ?_⟩) hHeld2 ?_
              rotate_left
              · (intro w hSw; (try dsimp only at hSw); go_simp)
                try with_reducible rfl
              try simp only [Act.put, List.setIfInBounds_toArray, List.set_cons_zero, List.set_cons_succ]
              refine wpAnyH_take (i := 20) (oi := ⟨some 62, .pick (.tmp 48) (.tmp 61) (.const (.bool false)), 4, "ref.go:59", #[⟨6, .data⟩, ⟨19, .data⟩], none⟩) (v := ?_) rfl (by kernel_rfl) (by kernel_rfl) (by kernel_rfl) (fun _ _ _ h => h) (Or.inl ⟨by rfl, ?_⟩) hHeld2 ?_
              rotate_left
              · (intro w hSw; (try dsimp only at hSw); go_simp)
                try with_reducible rfl
              try simp only [Act.put, List.setIfInBounds_toArray, List.set_cons_zero, List.set_cons_succ]
              refine wpAnyH_take (i := 21) (oi := ⟨some 63, .move (.tmp 62), 4, "ref.go:59", #[⟨20, .data⟩, ⟨18, .chain⟩], none⟩) (v := ?_) rfl (by kernel_rfl) (by kernel_rfl) (by kernel_rfl) (fun _ _ _ h => h) (Or.inl ⟨by rfl, ?_⟩) hHeld2 ?_
              rotate_left
              · (intro w hSw; (try dsimp only at hSw); go_simp)
                try with_reducible rfl
              try simp only [Act.put, List.setIfInBounds_toArray, List.set_cons_zero, List.set_cons_succ]
              refine wpAnyH_take (i := 22) (oi := ⟨some 64, .move (.tmp 0), 22, "ref.go:59", #[⟨21, .guard⟩], some (21, false)⟩) (v := ?_) rfl (by kernel_rfl) (by kernel_rfl) (by kernel_rfl) (fun _ _ _ h => h) (Or.inl ⟨by rfl, ?_⟩) hHeld2 ?_
              rotate_left
              · (intro w hSw; (try dsimp only at hSw); go_simp)
                try with_reducible rfl
              try simp only [Act.put, List.setIfInBounds_toArray, List.set_cons_zero, List.set_cons_succ]
              refine wpAnyH_take (i := 23) (oi := ⟨some 65, .move (.tmp 3), 3, "ref.go:59", #[⟨21, .guard⟩], some (21, false)⟩) (v := ?_) rfl (by kernel_rfl) (by kernel_rfl) (by kernel_rfl) (fun _ _ _ h => h) (Or.inl ⟨by rfl, ?_⟩) hHeld2 ?_
              rotate_left
              · (intro w hSw; (try dsimp only at hSw); go_simp)
                try with_reducible rfl
              try simp only [Act.put, List.setIfInBounds_toArray, List.set_cons_zero, List.set_cons_succ]
              refine wpAnyH_take (i := 24) (oi := ⟨some 66, .indexAddr 22 (.tmp 64) (.tmp 65), 0, "ref.go:59", #[⟨22, .data⟩, ⟨23, .data⟩, ⟨21, .guard⟩], some (21, false)⟩) (v := ?_) rfl (by kernel_rfl) (by kernel_rfl) (by kernel_rfl) (fun _ _ _ h => h) (Or.inl ⟨by rfl, ?_⟩) hHeld2 ?_
              rotate_left
              · (intro w hSw; (try dsimp only at hSw); go_simp)
                try with_reducible rfl
              try simp only [Act.put, List.setIfInBounds_toArray, List.set_cons_zero, List.set_cons_succ]
              refine wpAnyH_take (i := 25) (oi := ⟨some 67, .fieldAddr 78 (.tmp 66) 0, 0, "ref.go:59", #[⟨24, .data⟩, ⟨21, .guard⟩], some (21, false)⟩) (v := ?_) rfl (by kernel_rfl) (by kernel_rfl) (by kernel_rfl) (fun _ _ _ h => h) (Or.inl ⟨by rfl, ?_⟩) hHeld2 ?_
              rotate_left
              · (intro w hSw; (try dsimp only at hSw); go_simp)
                try with_reducible rfl
              try simp only [Act.put, List.setIfInBounds_toArray, List.set_cons_zero, List.set_cons_succ]
              refine wpAnyH_take (i := 26) (oi := ⟨some 68, .load 3 (.tmp 67), 3, "ref.go:59", #[⟨25, .data⟩, ⟨21, .guard⟩], some (21, false)⟩) (v := ?_) rfl (by kernel_rfl) (by kernel_rfl) (by kernel_rfl) (fun _ _ _ h => h) (Or.inl ⟨by rfl, ?_⟩) hHeld2 ?_
              rotate_left
              · (intro w hSw; (try dsimp only at hSw); go_simp)
                try with_reducible rfl
              try simp only [Act.put, List.setIfInBounds_toArray, List.set_cons_zero, List.set_cons_succ]
              refine wpAnyH_take (i := 27) (oi := ⟨some 69, .binOp .eql 3 (.tmp 68) (.const (.int .i64 2)) 3, 4, "ref.go:59", #[⟨26, .data⟩, ⟨21, .guard⟩], some (21, false)⟩) (v := ?_) rfl (by kernel_rfl) (by kernel_rfl) (by kernel_rfl) (fun _ _ _ h => h) (Or.inl ⟨by rfl, ?_⟩) hHeld2 ?_
              rotate_left
              · (intro w hSw; (try dsimp only at hSw); go_simp)
                try with_reducible rfl
              try simp only [Act.put, List.setIfInBounds_toArray, List.set_cons_zero, List.set_cons_succ]
              refine wpAnyH_take (i := 28) (oi := ⟨some 70, .move (.tmp 69), 4, "ref.go:59", #[⟨27, .data⟩, ⟨21, .chain⟩, ⟨21, .guard⟩], some (21, false)⟩) (v := ?_) rfl (by kernel_rfl) (by kernel_rfl) (by kernel_rfl) (fun _ _ _ h => h) (Or.inl ⟨by rfl, ?_⟩) hHeld2 ?_
              rotate_left
              · (intro w hSw; (try dsimp only at hSw); go_simp)
                try with_reducible rfl
              try simp only [Act.put, List.setIfInBounds_toArray, List.set_cons_zero, List.set_cons_succ]
              refine wpAnyH_take (i := 29) (oi := ⟨some 71, .move (.tmp 3), 3, "ref.go:59", #[⟨28, .guard⟩], some (28, true)⟩) (v := undef) rfl (by kernel_rfl) (by kernel_rfl) (by kernel_rfl) (fun _ _ _ h => h) (Or.inr ⟨by rfl, rfl⟩) hHeld2 ?_
              try simp only [Act.put, List.setIfInBounds_toArray, List.set_cons_zero, List.set_cons_succ]
              refine wpAnyH_take (i := 30) (oi := ⟨some 72, .binOp .gtr 3 (.tmp 71) (.const (.int .i64 0)) 3, 4, "ref.go:59", #[⟨29, .data⟩, ⟨28, .guard⟩], some (28, true)⟩) (v := undef) rfl (by kernel_rfl) (by kernel_rfl) (by kernel_rfl) (fun _ _ _ h => h) (Or.inr ⟨by rfl, rfl⟩) hHeld2 ?_
              try simp only [Act.put, List.setIfInBounds_toArray, List.set_cons_zero, List.set_cons_succ]
              refine wpAnyH_take (i := 31) (oi := ⟨some 73, .pick (.tmp 70) (.tmp 72) (.const (.bool false)), 4, "ref.go:59", #[⟨28, .data⟩, ⟨30, .data⟩, ⟨21, .guard⟩], some (21, false)⟩) (v := ?_) rfl (by kernel_rfl) (by kernel_rfl) (by kernel_rfl) (fun _ _ _ h => h) (Or.inl ⟨by rfl, ?_⟩) hHeld2 ?_
              rotate_left
              · (intro w hSw; (try dsimp only at hSw); go_simp)
                try with_reducible rfl
              try simp only [Act.put, List.setIfInBounds_toArray, List.set_cons_zero, List.set_cons_succ]
              refine wpAnyH_take (i := 32) (oi := ⟨some 74, .move (.tmp 73), 4, "ref.go:59", #[⟨31, .data⟩, ⟨28, .chain⟩, ⟨21, .guard⟩], some (21, false)⟩) (v := ?_) rfl (by kernel_rfl) (by kernel_rfl) (by kernel_rfl) (fun _ _ _ h => h) (Or.inl ⟨by rfl, ?_⟩) hHeld2 ?_
              rotate_left
              · (intro w hSw; (try dsimp only at hSw); go_simp)
                try with_reducible rfl
              try simp only [Act.put, List.setIfInBounds_toArray, List.set_cons_zero, List.set_cons_succ]
              refine wpAnyH_take (i := 33) (oi := ⟨some 75, .move (.tmp 0), 22, "ref.go:59", #[⟨32, .guard⟩], some (32, true)⟩) (v := undef) rfl (by kernel_rfl) (by kernel_rfl) (by kernel_rfl) (fun _ _ _ h => h) (Or.inr ⟨by rfl, rfl⟩) hHeld2 ?_
              try simp only [Act.put, List.setIfInBounds_toArray, List.set_cons_zero, List.set_cons_succ]
              refine wpAnyH_take (i := 34) (oi := ⟨some 76, .move (.tmp 3), 3, "ref.go:59", #[⟨32, .guard⟩], some (32, true)⟩) (v := undef) rfl (by kernel_rfl) (by kernel_rfl) (by kernel_rfl) (fun _ _ _ h => h) (Or.inr ⟨by rfl, rfl⟩) hHeld2 ?_
              try simp only [Act.put, List.setIfInBounds_toArray, List.set_cons_zero, List.set_cons_succ]
              refine wpAnyH_take (i := 35) (oi := ⟨some 77, .binOp .sub 3 (.tmp 76) (.const (.int .i64 1)) 3, 3, "ref.go:59", #[⟨34, .data⟩, ⟨32, .guard⟩], some (32, true)⟩) (v := undef) rfl (by kernel_rfl) (by kernel_rfl) (by kernel_rfl) (fun _ _ _ h => h) (Or.inr ⟨by rfl, rfl⟩) hHeld2 ?_
              try simp only [Act.put, List.setIfInBounds_toArray, List.set_cons_zero, List.set_cons_succ]
              refine wpAnyH_take (i := 36) (oi := ⟨some 78, .indexAddr 22 (.tmp 75) (.tmp 77), 0, "ref.go:59", #[⟨33, .data⟩, ⟨35, .data⟩, ⟨32, .guard⟩], some (32, true)⟩) (v := undef) rfl (by kernel_rfl) (by kernel_rfl) (by kernel_rfl) (fun _ _ _ h => h) (Or.inr ⟨by rfl, rfl⟩) hHeld2 ?_
              try simp only [Act.put, List.setIfInBounds_toArray, List.set_cons_zero, List.set_cons_succ]
              refine wpAnyH_take (i := 37) (oi := ⟨some 79, .fieldAddr 78 (.tmp 78) 0, 0, "ref.go:59", #[⟨36, .data⟩, ⟨32, .guard⟩], some (32, true)⟩) (v := undef) rfl (by kernel_rfl) (by kernel_rfl) (by kernel_rfl) (fun _ _ _ h => h) (Or.inr ⟨by rfl, rfl⟩) hHeld2 ?_
              try simp only [Act.put, List.setIfInBounds_toArray, List.set_cons_zero, List.set_cons_succ]
              refine wpAnyH_take (i := 38) (oi := ⟨some 80, .load 3 (.tmp 79), 3, "ref.go:59", #[⟨37, .data⟩, ⟨32, .guard⟩], some (32, true)⟩) (v := undef) rfl (by kernel_rfl) (by kernel_rfl) (by kernel_rfl) (fun _ _ _ h => h) (Or.inr ⟨by rfl, rfl⟩) hHeld2 ?_
              try simp only [Act.put, List.setIfInBounds_toArray, List.set_cons_zero, List.set_cons_succ]
              refine wpAnyH_take (i := 39) (oi := ⟨some 81, .binOp .eql 3 (.tmp 80) (.const (.int .i64 2)) 3, 4, "ref.go:59", #[⟨38, .data⟩, ⟨32, .guard⟩], some (32, true)⟩) (v := undef) rfl (by kernel_rfl) (by kernel_rfl) (by kernel_rfl) (fun _ _ _ h => h) (Or.inr ⟨by rfl, rfl⟩) hHeld2 ?_
              try simp only [Act.put, List.setIfInBounds_toArray, List.set_cons_zero, List.set_cons_succ]
              refine wpAnyH_take (i := 40) (oi := ⟨some 82, .pick (.tmp 74) (.tmp 81) (.const (.bool false)), 4, "ref.go:59", #[⟨32, .data⟩, ⟨39, .data⟩, ⟨21, .guard⟩], some (21, false)⟩) (v := ?_) rfl (by kernel_rfl) (by kernel_rfl) (by kernel_rfl) (fun _ _ _ h => h) (Or.inl ⟨by rfl, ?_⟩) hHeld2 ?_
              rotate_left
              · (intro w hSw; (try dsimp only at hSw); go_simp)
                try with_reducible rfl
              try simp only [Act.put, List.setIfInBounds_toArray, List.set_cons_zero, List.set_cons_succ]
              refine wpAnyH_take (i := 41) (oi := ⟨some 83, .move (.tmp 82), 4, "ref.go:59", #[⟨40, .data⟩, ⟨32, .chain⟩, ⟨21, .guard⟩], some (21, false)⟩) (v := ?_) rfl (by kernel_rfl) (by kernel_rfl) (by kernel_rfl) (fun _ _ _ h => h) (Or.inl ⟨by rfl, ?_⟩) hHeld2 ?_
              rotate_left
              · (intro w hSw; (try dsimp only at hSw); go_simp)
                try with_reducible rfl
              try simp only [Act.put, List.setIfInBounds_toArray, List.set_cons_zero, List.set_cons_succ]
              refine wpAnyH_take (i := 42) (oi := ⟨some 84, .move (.tmp 0), 22, "ref.go:59", #[⟨41, .guard⟩], some (41, true)⟩) (v := undef) rfl (by kernel_rfl) (by kernel_rfl) (by kernel_rfl) (fun _ _ _ h => h) (Or.inr ⟨by rfl, rfl⟩) hHeld2 ?_
              try simp only [Act.put, List.setIfInBounds_toArray, List.set_cons_zero, List.set_cons_succ]
              refine wpAnyH_take (i := 43) (oi := ⟨some 85, .move (.tmp 3), 3, "ref.go:59", #[⟨41, .guard⟩], some (41, true)⟩) (v := undef) rfl (by kernel_rfl) (by kernel_rfl) (by kernel_rfl) (fun _ _ _ h => h) (Or.inr ⟨by rfl, rfl⟩) hHeld2 ?_
              try simp only [Act.put, List.setIfInBounds_toArray, List.set_cons_zero, List.set_cons_succ]
              refine wpAnyH_take (i := 44) (oi := ⟨some 86, .binOp .sub 3 (.tmp 85) (.const (.int .i64 1)) 3, 3, "ref.go:59", #[⟨43, .data⟩, ⟨41, .guard⟩], some (41, true)⟩) (v := undef) rfl (by kernel_rfl) (by kernel_rfl) (by kernel_rfl) (fun _ _ _ h => h) (Or.inr ⟨by rfl, rfl⟩) hHeld2 ?_
              try simp only [Act.put, List.setIfInBounds_toArray, List.set_cons_zero, List.set_cons_succ]
              refine wpAnyH_take (i := 45) (oi := ⟨some 87, .indexAddr 22 (.tmp 84) (.tmp 86), 0, "ref.go:59", #[⟨42, .data⟩, ⟨44, .data⟩, ⟨41, .guard⟩], some (41, true)⟩) (v := undef) rfl (by kernel_rfl) (by kernel_rfl) (by kernel_rfl) (fun _ _ _ h => h) (Or.inr ⟨by rfl, rfl⟩) hHeld2 ?_
              try simp only [Act.put, List.setIfInBounds_toArray, List.set_cons_zero, List.set_cons_succ]
              refine wpAnyH_take (i := 46) (oi := ⟨some 88, .fieldAddr 78 (.tmp 87) 1, 0, "ref.go:59", #[⟨45, .data⟩, ⟨41, .guard⟩], some (41, true)⟩) (v := undef) rfl (by kernel_rfl) (by kernel_rfl) (by kernel_rfl) (fun _ _ _ h => h) (Or.inr ⟨by rfl, rfl⟩) hHeld2 ?_
              try simp only [Act.put, List.setIfInBounds_toArray, List.set_cons_zero, List.set_cons_succ]
              refine wpAnyH_take (i := 47) (oi := ⟨some 89, .load 24 (.tmp 88), 24, "ref.go:59", #[⟨46, .data⟩, ⟨41, .guard⟩], some (41, true)⟩) (v := undef) rfl (by kernel_rfl) (by kernel_rfl) (by kernel_rfl) (fun _ _ _ h => h) (Or.inr ⟨by rfl, rfl⟩) hHeld2 ?_
              try simp only [Act.put, List.setIfInBounds_toArray, List.set_cons_zero, List.set_cons_succ]
              refine wpAnyH_take (i := 48) (oi := ⟨some 90, .call { callee := .builtin .len, args := #[.tmp 89], argTypes := #[24] }, 3, "ref.go:59", #[⟨47, .data⟩, ⟨41, .guard⟩], some (41, true)⟩) (v := undef) rfl (by kernel_rfl) (by kernel_rfl) (by kernel_rfl) (fun _ _ _ h => h) (Or.inr ⟨by rfl, rfl⟩) hHeld2 ?_
              try simp only [Act.put, List.setIfInBounds_toArray, List.set_cons_zero, List.set_cons_succ]
              refine wpAnyH_take (i := 49) (oi := ⟨some 91, .binOp .lss 3 (.tmp 90) (.const (.int .i64 255)) 3, 4, "ref.go:59", #[⟨48, .data⟩, ⟨41, .guard⟩], some (41, true)⟩) (v := undef) rfl (by kernel_rfl) (by kernel_rfl) (by kernel_rfl) (fun _ _ _ h => h) (Or.inr ⟨by rfl, rfl⟩) hHeld2 ?_
              try simp only [Act.put, List.setIfInBounds_toArray, List.set_cons_zero, List.set_cons_succ]
              refine wpAnyH_take (i := 50) (oi := ⟨some 92, .pick (.tmp 83) (.tmp 91) (.const (.bool false)), 4, "ref.go:59", #[⟨41, .data⟩, ⟨49, .data⟩, ⟨21, .guard⟩], some (21, false)⟩) (v := ?_) rfl (by kernel_rfl) (by kernel_rfl) (by kernel_rfl) (fun _ _ _ h => h) (Or.inl ⟨by rfl, ?_⟩) hHeld2 ?_
              rotate_left
              · (intro w hSw; (try dsimp only at hSw); go_simp)
                try with_reducible rfl
              try simp only [Act.put, List.setIfInBounds_toArray, List.set_cons_zero, List.set_cons_succ]
              refine wpAnyH_take (i := 51) (oi := ⟨some 93, .pick (.tmp 63) (.const (.bool true)) (.tmp 92), 4, "ref.go:59", #[⟨21, .data⟩, ⟨50, .data⟩], none⟩) (v := ?_) rfl (by kernel_rfl) (by kernel_rfl) (by kernel_rfl) (fun _ _ _ h => h) (Or.inl ⟨by rfl, ?_⟩) hHeld2 ?_
              rotate_left
              · (intro w hSw; (try dsimp only at hSw); go_simp)
                try with_reducible rfl
              try simp only [Act.put, List.setIfInBounds_toArray, List.set_cons_zero, List.set_cons_succ]
              refine wpAnyH_done (by kernel_rfl) ?_ _
              refine NoPanic.normal ?_
              go_wp2
              go_roundw
              case rel => exact ⟨i + 1, by omega, by go_num, Go.Lib.hid (by rw [HNX.out]; exact HA3.out), Go.Lib.hid (hbw.out.trans (BW.out.mono hbw.out.size))⟩
              case measure => simp [intOf]; omega
            | false =>
              rw [hsm] at CM HA3
              go_wp2
              have BW := Go.Lib.hid ((Below.refl wr.heap.size wr).drew)
              clear k1 k2
              refine wp_region_noPanic ?_
              refine wp_region_held_drew (S := (fun w' => w'.cell? ⟨b, off + i * 2, none⟩ = some (.int .i64 1) ∧ w'.cell? ⟨b, off + i * 2 + 1, none⟩ = some (.slice Ax m cx))) (by kernel_rfl) (HKC.out _ BW.out) (fun hHeld => ?_)
              refine wpAnyH_take (i := 0) (oi := ⟨some 42, .move (.tmp 0), 22, "ref.go:59", #[], none⟩) (v := ?_) rfl (by kernel_rfl) (by kernel_rfl) (by kernel_rfl) (fun _ _ _ h => h) (Or.inl ⟨by rfl, ?_⟩) hHeld ?_
              rotate_left
              · (intro w hSw; (try dsimp only at hSw); go_simp)
                try with_reducible rfl
              try simp only [Act.put, List.setIfInBounds_toArray, List.set_cons_zero, List.set_cons_succ]
              refine wpAnyH_take (i := 1) (oi := ⟨some 43, .move (.tmp 3), 3, "ref.go:59", #[], none⟩) (v := ?_) rfl (by kernel_rfl) (by kernel_rfl) (by kernel_rfl) (fun _ _ _ h => h) (Or.inl ⟨by rfl, ?_⟩) hHeld ?_
              rotate_left
              · (intro w hSw; (try dsimp only at hSw); go_simp)
                try with_reducible rfl
              try simp only [Act.put, List.setIfInBounds_toArray, List.set_cons_zero, List.set_cons_succ]
              refine wpAnyH_take (i := 2) (oi := ⟨some 44, .indexAddr 22 (.tmp 42) (.tmp 43), 0, "ref.go:59", #[⟨0, .data⟩, ⟨1, .data⟩], none⟩) (v := ?_) rfl (by kernel_rfl) (by kernel_rfl) (by kernel_rfl) (fun _ _ _ h => h) (Or.inl ⟨by rfl, ?_⟩) hHeld ?_
              rotate_left
              · (intro w hSw; (try dsimp only at hSw); go_simp)
                try with_reducible rfl
              try simp only [Act.put, List.setIfInBounds_toArray, List.set_cons_zero, List.set_cons_succ]
              refine wpAnyH_take (i := 3) (oi := ⟨some 45, .fieldAddr 78 (.tmp 44) 0, 0, "ref.go:59", #[⟨2, .data⟩], none⟩) (v := ?_) rfl (by kernel_rfl) (by kernel_rfl) (by kernel_rfl) (fun _ _ _ h => h) (Or.inl ⟨by rfl, ?_⟩) hHeld ?_
              rotate_left
              · (intro w hSw; (try dsimp only at hSw); go_simp)
                try with_reducible rfl
              try simp only [Act.put, List.setIfInBounds_toArray, List.set_cons_zero, List.set_cons_succ]
              refine wpAnyH_take (i := 4) (oi := ⟨some 46, .load 3 (.tmp 45), 3, "ref.go:59", #[⟨3, .data⟩], none⟩) (v := ?_) rfl (by kernel_rfl) (by kernel_rfl) (by kernel_rfl) (fun _ _ _ h => h) (Or.inl ⟨by rfl, ?_⟩) hHeld ?_
              rotate_left
              · (intro w hSw; (try dsimp only at hSw); go_simp)
                try with_reducible rfl
              try simp only [Act.put, List.setIfInBounds_toArray, List.set_cons_zero, List.set_cons_succ]
              refine wpAnyH_take (i := 5) (oi := ⟨some 47, .binOp .eql 3 (.tmp 46) (.const (.int .i64 1)) 3, 4, "ref.go:59", #[⟨4, .data⟩], none⟩) (v := ?_) rfl (by kernel_rfl) (by kernel_rfl) (by kernel_rfl) (fun _ _ _ h => h) (Or.inl ⟨by rfl, ?_⟩) hHeld ?_
              rotate_left
              · (intro w hSw; (try dsimp only at hSw); go_simp)
                try with_reducible rfl
              try simp only [Act.put, List.setIfInBounds_toArray, List.set_cons_zero, List.set_cons_succ]
              refine wpAnyH_take (i := 6) (oi := ⟨some 48, .move (.tmp 47), 4, "ref.go:59", #[⟨5, .data⟩], none⟩) (v := ?_) rfl (by kernel_rfl) (by kernel_rfl) (by kernel_rfl) (fun _ _ _ h => h) (Or.inl ⟨by rfl, ?_⟩) hHeld ?_
              rotate_left
              · (intro w hSw; (try dsimp only at hSw); go_simp)
                try with_reducible rfl
              try simp only [Act.put, List.setIfInBounds_toArray, List.set_cons_zero, List.set_cons_succ]
              refine wpAnyH_take (i := 7) (oi := ⟨some 49, .move (.tmp 0), 22, "ref.go:59", #[⟨6, .guard⟩], some (6, true)⟩) (v := ?_) rfl (by kernel_rfl) (by kernel_rfl) (by kernel_rfl) (fun _ _ _ h => h) (Or.inl ⟨by rfl, ?_⟩) hHeld ?_
              rotate_left
              · (intro w hSw; (try dsimp only at hSw); go_simp)
                try with_reducible rfl
              try simp only [Act.put, List.setIfInBounds_toArray, List.set_cons_zero, List.set_cons_succ]
              refine wpAnyH_take (i := 8) (oi := ⟨some 50, .move (.tmp 3), 3, "ref.go:59", #[⟨6, .guard⟩], some (6, true)⟩) (v := ?_) rfl (by kernel_rfl) (by kernel_rfl) (by kernel_rfl) (fun _ _ _ h => h) (Or.inl ⟨by rfl, ?_⟩) hHeld ?_
              rotate_left
              · (intro w hSw; (try dsimp only at hSw); go_simp)
                try with_reducible rfl
              try simp only [Act.put, List.setIfInBounds_toArray, List.set_cons_zero, List.set_cons_succ]
              refine wpAnyH_take (i := 9) (oi := ⟨some 51, .indexAddr 22 (.tmp 49) (.tmp 50), 0, "ref.go:59", #[⟨7, .data⟩, ⟨8, .data⟩, ⟨6, .guard⟩], some (6, true)⟩) (v := ?_) rfl (by kernel_rfl) (by kernel_rfl) (by kernel_rfl) (fun _ _ _ h => h) (Or.inl ⟨by rfl, ?_⟩) hHeld ?_
              rotate_left
              · (intro w hSw; (try dsimp only at hSw); go_simp)
                try with_reducible rfl
              try simp only [Act.put, List.setIfInBounds_toArray, List.set_cons_zero, List.set_cons_succ]
              refine wpAnyH_take (i := 10) (oi := ⟨some 52, .fieldAddr 78 (.tmp 51) 1, 0, "ref.go:59", #[⟨9, .data⟩, ⟨6, .guard⟩], some (6, true)⟩) (v := ?_) rfl (by kernel_rfl) (by kernel_rfl) (by kernel_rfl) (fun _ _ _ h => h) (Or.inl ⟨by rfl, ?_⟩) hHeld ?_
              rotate_left
              · (intro w hSw; (try dsimp only at hSw); go_simp)
                try with_reducible rfl
              try simp only [Act.put, List.setIfInBounds_toArray, List.set_cons_zero, List.set_cons_succ]
              refine wpAnyH_take (i := 11) (oi := ⟨some 53, .load 24 (.tmp 52), 24, "ref.go:59", #[⟨10, .data⟩, ⟨6, .guard⟩], some (6, true)⟩) (v := ?_) rfl (by kernel_rfl) (by kernel_rfl) (by kernel_rfl) (fun _ _ _ h => h) (Or.inl ⟨by rfl, ?_⟩) hHeld ?_
              rotate_left
              · (intro w hSw; (try dsimp only at hSw); go_simp)
                try with_reducible rfl
              try simp only [Act.put, List.setIfInBounds_toArray, List.set_cons_zero, List.set_cons_succ]
              refine wpAnyH_take (i := 13) (oi := ⟨some 55, .move (.tmp 0), 22, "ref.go:59", #[⟨6, .guard⟩], some (6, true)⟩) (v := ?_) rfl (by kernel_rfl) (by kernel_rfl) (by kernel_rfl) (fun _ _ _ h => h) (Or.inl ⟨by rfl, ?_⟩) hHeld ?_
              rotate_left
              · (intro w hSw; (try dsimp only at hSw); go_simp)
                try with_reducible rfl
              try simp only [Act.put, List.setIfInBounds_toArray, List.set_cons_zero, List.set_cons_succ]
              refine wpAnyH_take (i := 14) (oi := ⟨some 56, .move (.tmp 3), 3, "ref.go:59", #[⟨6, .guard⟩], some (6, true)⟩) (v := ?_) rfl (by kernel_rfl) (by kernel_rfl) (by kernel_rfl) (fun _ _ _ h => h) (Or.inl ⟨by rfl, ?_⟩) hHeld ?_
              rotate_left
              · (intro w hSw; (try dsimp only at hSw); go_simp)
                try with_reducible rfl
              try simp only [Act.put, List.setIfInBounds_toArray, List.set_cons_zero, List.set_cons_succ]
              refine wpAnyH_take (i := 15) (oi := ⟨some 57, .indexAddr 22 (.tmp 55) (.tmp 56), 0, "ref.go:59", #[⟨13, .data⟩, ⟨14, .data⟩, ⟨6, .guard⟩], some (6, true)⟩) (v := ?_) rfl (by kernel_rfl) (by kernel_rfl) (by kernel_rfl) (fun _ _ _ h => h) (Or.inl ⟨by rfl, ?_⟩) hHeld ?_
              rotate_left
              · (intro w hSw; (try dsimp only at hSw); go_simp)
                try with_reducible rfl
              try simp only [Act.put, List.setIfInBounds_toArray, List.set_cons_zero, List.set_cons_succ]
              refine wpAnyH_take (i := 16) (oi := ⟨some 58, .fieldAddr 78 (.tmp 57) 1, 0, "ref.go:59", #[⟨15, .data⟩, ⟨6, .guard⟩], some (6, true)⟩) (v := ?_) rfl (by kernel_rfl) (by kernel_rfl) (by kernel_rfl) (fun _ _ _ h => h) (Or.inl ⟨by rfl, ?_⟩) hHeld ?_
              rotate_left
              · (intro w hSw; (try dsimp only at hSw); go_simp)
                try with_reducible rfl
              try simp only [Act.put, List.setIfInBounds_toArray, List.set_cons_zero, List.set_cons_succ]
              refine wpAnyH_take (i := 17) (oi := ⟨some 59, .load 24 (.tmp 58), 24, "ref.go:59", #[⟨16, .data⟩, ⟨6, .guard⟩], some (6, true)⟩) (v := ?_) rfl (by kernel_rfl) (by kernel_rfl) (by kernel_rfl) (fun _ _ _ h => h) (Or.inl ⟨by rfl, ?_⟩) hHeld ?_
              rotate_left
              · (intro w hSw; (try dsimp only at hSw); go_simp)
                try with_reducible rfl
              try simp only [Act.put, List.setIfInBounds_toArray, List.set_cons_zero, List.set_cons_succ]
              refine wpAnyH_ready (rs := [12]) (by kernel_rfl) (by simp) ?_
              refine AllReadyH.cons (o := ⟨some 54, .call { callee := .value (.func 39), args := #[.tmp 53], argTypes := #[24] }, 24, "ref.go:59", #[⟨11, .data⟩, ⟨6, .chain⟩, ⟨6, .guard⟩], some (6, true)⟩) rfl (fun K hK => ?_) AllReadyH.nil
              go_simp
              go_at_call 39; refine (CS.out _ BW.out).mono ?_; rintro e x ⟨v1, rfl, ho, hb⟩; have U := Go.Lib.hid (U32s.of_own ho HS.out); replace BW := Go.Lib.hid (BW.out.trans (hb.mono BW.out.size)); clear ho hb
              (try go_wp2_with fail)
              refine hK.out _ _ (HKC.out _ BW.out) (fun hHeld1 => ?_)
              clear hK K
              try simp only [Act.put, List.setIfInBounds_toArray, List.set_cons_zero, List.set_cons_succ]
              refine wpAnyH_ready (rs := [18]) (by kernel_rfl) (by simp) ?_
              refine AllReadyH.cons (o := ⟨some 60, .call { callee := .value (.func 35), args := #[.tmp 54, .tmp 59], argTypes := #[24, 24] }, 4, "ref.go:59", #[⟨12, .data⟩, ⟨17, .data⟩, ⟨12, .chain⟩, ⟨6, .guard⟩], some (6, true)⟩) rfl (fun K hK => ?_) AllReadyH.nil
              go_simp
              go_at_call 35; refine (CM.out _ _ U.out BW.out).mono ?_; rintro e x ⟨rfl, hb⟩; replace BW := Go.Lib.hid (BW.out.trans (hb.mono BW.out.size)); clear hb
              (try go_wp2_with fail)
              refine hK.out _ _ (HKC.out _ BW.out) (fun hHeld2 => ?_)
              clear hK K
              try simp only [Act.put, List.setIfInBounds_toArray, List.set_cons_zero, List.set_cons_succ]
              refine wpAnyH_take (i := 19) (oi := ⟨some 61, .unOp .not 4 (.tmp 60), 4, "ref.go:59", #[⟨18, .data⟩, ⟨6, .guard⟩], some (6, true)⟩) (v := ?_) rfl (by kernel_rfl) (by kernel_rfl) (by kernel_rfl) (fun _ _ _ h => h) (Or.inl ⟨by rfl, ?_⟩) hHeld2 ?_
              rotate_left
              · (intro w hSw; (try dsimp only at hSw); go_simp)
                try with_reducible rfl
              try simp only [Act.put, List.setIfInBounds_toArray, List.set_cons_zero, List.set_cons_succ]
              refine wpAnyH_take (i := 20) (oi := ⟨some 62, .pick (.tmp 48) (.tmp 61) (.const (.bool false)), 4, "ref.go:59", #[⟨6, .data⟩, ⟨19, .data⟩], none⟩) (v := ?_) rfl (by kernel_rfl) (by kernel_rfl) (by kernel_rfl) (fun _ _ _ h => h) (Or.inl ⟨by rfl, ?_⟩) hHeld2 ?_
              rotate_left
              · (intro w hSw; (try dsimp only at hSw); go_simp)
                try with_reducible rfl
              try simp only [Act.put, List.setIfInBounds_toArray, List.set_cons_zero, List.set_cons_succ]
              refine wpAnyH_take (i := 21) (oi := ⟨some 63, .move (.tmp 62), 4, "ref.go:59", #[⟨20, .data⟩, ⟨18, .chain⟩], none⟩) (v := ?_) rfl (by kernel_rfl) (by kernel_rfl) (by kernel_rfl) (fun _ _ _ h => h) (Or.inl ⟨by rfl, ?_⟩) hHeld2 ?_
              rotate_left
              · (intro w hSw; (try dsimp only at hSw); go_simp)
                try with_reducible rfl
              try simp only [Act.put, List.setIfInBounds_toArray, List.set_cons_zero, List.set_cons_succ]
              refine wpAnyH_take (i := 22) (oi := ⟨some 64, .move (.tmp 0), 22, "ref.go:59", #[⟨21, .guard⟩], some (21, false)⟩) (v := undef) rfl (by kernel_rfl) (by kernel_rfl) (by kernel_rfl) (fun _ _ _ h => h) (Or.inr ⟨by rfl, rfl⟩) hHeld2 ?_
              try simp only [Act.put, List.setIfInBounds_toArray, List.set_cons_zero, List.set_cons_succ]
              refine wpAnyH_take (i := 23) (oi := ⟨some 65, .move (.tmp 3), 3, "ref.go:59", #[⟨21, .guard⟩], some (21, false)⟩) (v := undef) rfl (by kernel_rfl) (by kernel_rfl) (by kernel_rfl) (fun _ _ _ h => h) (Or.inr ⟨by rfl, rfl⟩) hHeld2 ?_
              try simp only [Act.put, List.setIfInBounds_toArray, List.set_cons_zero, List.set_cons_succ]
              refine wpAnyH_take (i := 24) (oi := ⟨some 66, .indexAddr 22 (.tmp 64) (.tmp 65), 0, "ref.go:59", #[⟨22, .data⟩, ⟨23, .data⟩, ⟨21, .guard⟩], some (21, false)⟩) (v := undef) rfl (by kernel_rfl) (by kernel_rfl) (by kernel_rfl) (fun _ _ _ h => h) (Or.inr ⟨by rfl, rfl⟩) hHeld2 ?_
              try simp only [Act.put, List.setIfInBounds_toArray, List.set_cons_zero, List.set_cons_succ]
              refine wpAnyH_take (i := 25) (oi := ⟨some 67, .fieldAddr 78 (.tmp 66) 0, 0, "ref.go:59", #[⟨24, .data⟩, ⟨21, .guard⟩], some (21, false)⟩) (v := undef) rfl (by kernel_rfl) (by kernel_rfl) (by kernel_rfl) (fun _ _ _ h => h) (Or.inr ⟨by rfl, rfl⟩) hHeld2 ?_
              try simp only [Act.put, List.setIfInBounds_toArray, List.set_cons_zero, List.set_cons_succ]
              refine wpAnyH_take (i := 26) (oi := ⟨some 68, .load 3 (.tmp 67), 3, "ref.go:59", #[⟨25, .data⟩, ⟨21, .guard⟩], some (21, false)⟩) (v := undef) rfl (by kernel_rfl) (by kernel_rfl) (by kernel_rfl) (fun _ _ _ h => h) (Or.inr ⟨by rfl, rfl⟩) hHeld2 ?_
              try simp only [Act.put, List.setIfInBounds_toArray, List.set_cons_zero, List.set_cons_succ]
              refine wpAnyH_take (i := 27) (oi := ⟨some 69, .binOp .eql 3 (.tmp 68) (.const (.int .i64 2)) 3, 4, "ref.go:59", #[⟨26, .data⟩, ⟨21, .guard⟩], some (21, false)⟩) (v := undef) rfl (by kernel_rfl) (by kernel_rfl) (by kernel_rfl) (fun _ _ _ h => h) (Or.inr ⟨by rfl, rfl⟩) hHeld2 ?_
              try simp only [Act.put, List.setIfInBounds_toArray, List.set_cons_zero, List.set_cons_succ]
              refine wpAnyH_take (i := 28) (oi := ⟨some 70, .move (.tmp 69), 4, "ref.go:59", #[⟨27, .data⟩, ⟨21, .chain⟩, ⟨21, .guard⟩], some (21, false)⟩) (v := undef) rfl (by kernel_rfl) (by kernel_rfl) (by kernel_rfl) (fun _ _ _ h => h) (Or.inr ⟨by rfl, rfl⟩) hHeld2 ?_
              try simp only [Act.put, List.setIfInBounds_toArray, List.set_cons_zero, List.set_cons_succ]
              refine wpAnyH_take (i := 29) (oi := ⟨some 71, .move (.tmp 3), 3, "ref.go:59", #[⟨28, .guard⟩], some (28, true)⟩) (v := undef) rfl (by kernel_rfl) (by kernel_rfl) (by kernel_rfl) (fun _ _ _ h => h) (Or.inr ⟨by rfl, rfl⟩) hHeld2 ?_
              try simp only [Act.put, List.setIfInBounds_toArray, List.set_cons_zero, List.set_cons_succ]
              refine wpAnyH_take (i := 30) (oi := ⟨some 72, .binOp .gtr 3 (.tmp 71) (.const (.int .i64 0)) 3, 4, "ref.go:59", #[⟨29, .data⟩, ⟨28, .guard⟩], some (28, true)⟩) (v := undef) rfl (by kernel_rfl) (by kernel_rfl) (by kernel_rfl) (fun _ _ _ h => h) (Or.inr ⟨by rfl, rfl⟩) hHeld2 ?_
              try simp only [Act.put, List.setIfInBounds_toArray, List.set_cons_zero, List.set_cons_succ]
              refine wpAnyH_take (i := 31) (oi := ⟨some 73, .pick (.tmp 70) (.tmp 72) (.const (.bool false)), 4, "ref.go:59", #[⟨28, .data⟩, ⟨30, .data⟩, ⟨21, .guard⟩], some (21, false)⟩) (v := undef) rfl (by kernel_rfl) (by kernel_rfl) (by kernel_rfl) (fun _ _ _ h => h) (Or.inr ⟨by rfl, rfl⟩) hHeld2 ?_
              try simp only [Act.put, List.setIfInBounds_toArray, List.set_cons_zero, List.set_cons_succ]
              refine wpAnyH_take (i := 32) (oi := ⟨some 74, .move (.tmp 73), 4, "ref.go:59", #[⟨31, .data⟩, ⟨28, .chain⟩, ⟨21, .guard⟩], some (21, false)⟩) (v := undef) rfl (by kernel_rfl) (by kernel_rfl) (by kernel_rfl) (fun _ _ _ h => h) (Or.inr ⟨by rfl, rfl⟩) hHeld2 ?_
              try simp only [Act.put, List.setIfInBounds_toArray, List.set_cons_zero, List.set_cons_succ]
              refine wpAnyH_take (i := 33) (oi := ⟨some 75, .move (.tmp 0), 22, "ref.go:59", #[⟨32, .guard⟩], some (32, true)⟩) (v := undef) rfl (by kernel_rfl) (by kernel_rfl) (by kernel_rfl) (fun _ _ _ h => h) (Or.inr ⟨by rfl, rfl⟩) hHeld2 ?_
              try simp only [Act.put, List.setIfInBounds_toArray, List.set_cons_zero, List.set_cons_succ]
              refine wpAnyH_take (i := 34) (oi := ⟨some 76, .move (.tmp 3), 3, "ref.go:59", #[⟨32, .guard⟩], some (32, true)⟩) (v := undef) rfl (by kernel_rfl) (by kernel_rfl) (by kernel_rfl) (fun _ _ _ h => h) (Or.inr ⟨by rfl, rfl⟩) hHeld2 ?_
              try simp only [Act.put, List.setIfInBounds_toArray, List.set_cons_zero, List.set_cons_succ]
              refine wpAnyH_take (i := 35) (oi := ⟨some 77, .binOp .sub 3 (.tmp 76) (.const (.int .i64 1)) 3, 3, "ref.go:59", #[⟨34, .data⟩, ⟨32, .guard⟩], some (32, true)⟩) (v := undef) rfl (by kernel_rfl) (by kernel_rfl) (by kernel_rfl) (fun _ _ _ h => h) (Or.inr ⟨by rfl, rfl⟩) hHeld2 ?_
              try simp only [Act.put, List.setIfInBounds_toArray, List.set_cons_zero, List.set_cons_succ]
              refine wpAnyH_take (i := 36) (oi := ⟨some 78, .indexAddr 22 (.tmp 75) (.tmp 77), 0, "ref.go:59", #[⟨33, .data⟩, ⟨35, .data⟩, ⟨32, .guard⟩], some (32, true)⟩) (v := undef) rfl (by kernel_rfl) (by kernel_rfl) (by kernel_rfl) (fun _ _ _ h => h) (Or.inr ⟨by rfl, rfl⟩) hHeld2 ?_
              try simp only [Act.put, List.setIfInBounds_toArray, List.set_cons_zero, List.set_cons_succ]
              refine wpAnyH_take (i := 37) (oi := ⟨some 79, .fieldAddr 78 (.tmp 78) 0, 0, "ref.go:59", #[⟨36, .data⟩, ⟨32, .guard⟩], some (32, true)⟩) (v := undef) rfl (by kernel_rfl) (by kernel_rfl) (by kernel_rfl) (fun _ _ _ h => h) (Or.inr ⟨by rfl, rfl⟩) hHeld2 ?_
              try simp only [Act.put, List.setIfInBounds_toArray, List.set_cons_zero, List.set_cons_succ]
              refine wpAnyH_take (i := 38) (oi := ⟨some 80, .load 3 (.tmp 79), 3, "ref.go:59", #[⟨37, .data⟩, ⟨32, .guard⟩], some (32, true)⟩) (v := undef) rfl (by kernel_rfl) (by kernel_rfl) (by kernel_rfl) (fun _ _ _ h => h) (Or.inr ⟨by rfl, rfl⟩) hHeld2 ?_
              try simp only [Act.put, List.setIfInBounds_toArray, List.set_cons_zero, List.set_cons_succ]
              refine wpAnyH_take (i := 39) (oi := ⟨some 81, .binOp .eql 3 (.tmp 80) (.const (.int .i64 2)) 3, 4, "ref.go:59", #[⟨38, .data⟩, ⟨32, .guard⟩], some (32, true)⟩) (v := undef) rfl (by kernel_rfl) (by kernel_rfl) (by kernel_rfl) (fun _ _ _ h => h) (Or.inr ⟨by rfl, rfl⟩) hHeld2 ?_
              try simp only [Act.put, List.setIfInBounds_toArray, List.set_cons_zero, List.set_cons_succ]
              refine wpAnyH_take (i := 40) (oi := ⟨some 82, .pick (.tmp 74) (.tmp 81) (.const (.bool false)), 4, "ref.go:59", #[⟨32, .data⟩, ⟨39, .data⟩, ⟨21, .guard⟩], some (21, false)⟩) (v := undef) rfl (by kernel_rfl) (by kernel_rfl) (by kernel_rfl) (fun _ _ _ h => h) (Or.inr ⟨by rfl, rfl⟩) hHeld2 ?_
              try simp only [Act.put, List.setIfInBounds_toArray, List.set_cons_zero, List.set_cons_succ]
              refine wpAnyH_take (i := 41) (oi := ⟨some 83, .move (.tmp 82), 4, "ref.go:59", #[⟨40, .data⟩, ⟨32, .chain⟩, ⟨21, .guard⟩], some (21, false)⟩) (v := undef) rfl (by kernel_rfl) (by kernel_rfl) (by kernel_rfl) (fun _ _ _ h => h) (Or.inr ⟨by rfl, rfl⟩) hHeld2 ?_
              try simp only [Act.put, List.setIfInBounds_toArray, List.set_cons_zero, List.set_cons_succ]
              refine wpAnyH_take (i := 42) (oi := ⟨some 84, .move (.tmp 0), 22, "ref.go:59", #[⟨41, .guard⟩], some (41, true)⟩) (v := undef) rfl (by kernel_rfl) (by kernel_rfl) (by kernel_rfl) (fun _ _ _ h => h) (Or.inr ⟨by rfl, rfl⟩) hHeld2 ?_
              try simp only [Act.put, List.setIfInBounds_toArray, List.set_cons_zero, List.set_cons_succ]
              refine wpAnyH_take (i := 43) (oi := ⟨some 85, .move (.tmp 3), 3, "ref.go:59", #[⟨41, .guard⟩], some (41, true)⟩) (v := undef) rfl (by kernel_rfl) (by kernel_rfl) (by kernel_rfl) (fun _ _ _ h => h) (Or.inr ⟨by rfl, rfl⟩) hHeld2 ?_
              try simp only [Act.put, List.setIfInBounds_toArray, List.set_cons_zero, List.set_cons_succ]
              refine wpAnyH_take (i := 44) (oi := ⟨some 86, .binOp .sub 3 (.tmp 85) (.const (.int .i64 1)) 3, 3, "ref.go:59", #[⟨43, .data⟩, ⟨41, .guard⟩], some (41, true)⟩) (v := undef) rfl (by kernel_rfl) (by kernel_rfl) (by kernel_rfl) (fun _ _ _ h => h) (Or.inr ⟨by rfl, rfl⟩) hHeld2 ?_
              try simp only [Act.put, List.setIfInBounds_toArray, List.set_cons_zero, List.set_cons_succ]
              refine wpAnyH_take (i := 45) (oi := ⟨some 87, .indexAddr 22 (.tmp 84) (.tmp 86), 0, "ref.go:59", #[⟨42, .data⟩, ⟨44, .data⟩, ⟨41, .guard⟩], some (41, true)⟩) (v := undef) rfl (by kernel_rfl) (by kernel_rfl) (by kernel_rfl) (fun _ _ _ h => h) (Or.inr ⟨by rfl, rfl⟩) hHeld2 ?_
              try simp only [Act.put, List.setIfInBounds_toArray, List.set_cons_zero, List.set_cons_succ]
              refine wpAnyH_take (i := 46) (oi := ⟨some 88, .fieldAddr 78 (.tmp 87) 1, 0, "ref.go:59", #[⟨45, .data⟩, ⟨41, .guard⟩], some (41, true)⟩) (v := undef) rfl (by kernel_rfl) (by kernel_rfl) (by kernel_rfl) (fun _ _ _ h => h) (Or.inr ⟨by rfl, rfl⟩) hHeld2 ?_
              try simp only [Act.put, List.setIfInBounds_toArray, List.set_cons_zero, List.set_cons_succ]
              refine wpAnyH_take (i := 47) (oi := ⟨some 89, .load 24 (.tmp 88), 24, "ref.go:59", #[⟨46, .data⟩, ⟨41, .guard⟩], some (41, true)⟩) (v := undef) rfl (by kernel_rfl) (by kernel_rfl) (by kernel_rfl) (fun _ _ _ h => h) (Or.inr ⟨by rfl, rfl⟩) hHeld2 ?_
              try simp only [Act.put, List.setIfInBounds_toArray, List.set_cons_zero, List.set_cons_succ]
              refine wpAnyH_take (i := 48) (oi := ⟨some 90, .call { callee := .builtin .len, args := #[.tmp 89], argTypes := #[24] }, 3, "ref.go:59", #[⟨47, .data⟩, ⟨41, .guard⟩], some (41, true)⟩) (v := undef) rfl (by kernel_rfl) (by kernel_rfl) (by kernel_rfl) (fun _ _ _ h => h) (Or.inr ⟨by rfl, rfl⟩) hHeld2 ?_
              try simp only [Act.put, List.setIfInBounds_toArray, List.set_cons_zero, List.set_cons_succ]
              refine wpAnyH_take (i := 49) (oi := ⟨some 91, .binOp .lss 3 (.tmp 90) (.const (.int .i64 255)) 3, 4, "ref.go:59", #[⟨48, .data⟩, ⟨41, .guard⟩], some (41, true)⟩) (v := undef) rfl (by kernel_rfl) (by kernel_rfl) (by kernel_rfl) (fun _ _ _ h => h) (Or.inr ⟨by rfl, rfl⟩) hHeld2 ?_
              try simp only [Act.put, List.setIfInBounds_toArray, List.set_cons_zero, List.set_cons_succ]
              refine wpAnyH_take (i := 50) (oi := ⟨some 92, .pick (.tmp 83) (.tmp 91) (.const (.bool false)), 4, "ref.go:59", #[⟨41, .data⟩, ⟨49, .data⟩, ⟨21, .guard⟩], some (21, false)⟩) (v := undef) rfl (by kernel_rfl) (by kernel_rfl) (by kernel_rfl) (fun _ _ _ h => h) (Or.inr ⟨by rfl, rfl⟩) hHeld2 ?_
              try simp only [Act.put, List.setIfInBounds_toArray, List.set_cons_zero, List.set_cons_succ]
              refine wpAnyH_take (i := 51) (oi := ⟨some 93, .pick (.tmp 63) (.const (.bool true)) (.tmp 92), 4, "ref.go:59", #[⟨21, .data⟩, ⟨50, .data⟩], none⟩) (v := ?_) rfl (by kernel_rfl) (by kernel_rfl) (by kernel_rfl) (fun _ _ _ h => h) (Or.inl ⟨by rfl, ?_⟩) hHeld2 ?_
              rotate_left
              · (intro w hSw; (try dsimp only at hSw); go_simp)
                try with_reducible rfl
              try simp only [Act.put, List.setIfInBounds_toArray, List.set_cons_zero, List.set_cons_succ]
              refine wpAnyH_done (by kernel_rfl) ?_ _
              refine NoPanic.normal ?_
              have HNO : Hid (okTo p p.length = false) := Go.Lib.hid (okTo_bad HA3.out hlt)
              go_wp2
              go_ret
              rw [HNO.out]
              exact ⟨rfl, hbw.out.trans (BW.out.mono hbw.out.size)⟩
          · by_cases hk2 : ks = 2
            · have HA3 : Hid (okAt p i = !roomy p i) := Go.Lib.hid (by rw [HA2.out, hk2]; simp)
              subst hk2
              clear HA2 hx hks hm
              by_cases hi0 : i = 0
              · have HOK : Hid (okAt p i = true) := Go.Lib.hid (by rw [HA3.out]; unfold roomy; rw [decide_eq_false (show ¬ 0 < i by omega)]; rfl)
                subst hi0
                simp only [Nat.zero_mul, Nat.add_zero] at k1 k2
                clear hs HA3
                go_wp2
                go_quiet (fail)
                have BW := Go.Lib.hid (Mem.below_drewN wr nq)
                go_wp2
                go_roundw
                case rel => exact ⟨0 + 1, by omega, by go_num, Go.Lib.hid (by rw [HNX.out]; exact HOK.out), Go.Lib.hid (hbw.out.trans (BW.out.mono hbw.out.size))⟩
                case measure => simp [intOf]; omega
              · have hip : 0 < i := by omega
                obtain ⟨r, hr⟩ : ∃ r, p[i - 1]? = some r := ⟨_, List.getElem?_eq_getElem (by omega)⟩
                obtain ⟨b', off', y, e9, hbl', k3, k4, hy⟩ := (HV.out.keep hbw.out).at_ hr
                injection e9 with e9
                injection e9 with e9 e10
                subst e9 e10
                obtain ⟨Ay, cy, rfl, hly, hcy, -, -⟩ := hy.open_
                obtain ⟨kr, hkr⟩ : ∃ kr, kr = r.1 := ⟨_, rfl⟩
                obtain ⟨mr, hmr⟩ : ∃ mr, mr = r.2.length := ⟨_, rfl⟩
                have HR : Hid (roomy p i = (decide (kr = 2) && decide (mr < 255))) := Go.Lib.hid (by unfold roomy; rw [decide_eq_true hip, hr, hkr, hmr]; rfl)
                rw [← hkr] at k3
                rw [← hmr] at k4
                have y0 : (0 : Int) < (i : Int) := by omega
                have y1 : IntKind.i64.wrap ((i : Int) - 1) = ((i - 1 : Nat) : Int) := by rw [IntKind.wrap_i64]; omega
                have y2 : (0 : Int) ≤ ((i - 1 : Nat) : Int) := by omega
                have y3 : ((i - 1 : Nat) : Int) < (p.length : Int) := by omega
                have y4 : ((i - 1 : Nat) : Int).toNat = i - 1 := by omega
                clear hy hs hr hkr hmr
                by_cases hk : kr = 2
                · subst hk
                  by_cases hm255 : (mr : Int) < 255
                  · have HNO : Hid (okTo p p.length = false) := Go.Lib.hid (okTo_bad (by rw [HA3.out, HR.out, decide_eq_true (show mr < 255 by omega)]; rfl) hlt)
                    clear HA3 HR HNX
                    go_wp2
                    go_quiet (fail)
                    have BW := Go.Lib.hid (Mem.below_drewN wr nq)
                    go_wp2
                    go_ret
                    rw [HNO.out]
                    exact ⟨rfl, hbw.out.trans (BW.out.mono hbw.out.size)⟩
                  · have d5 : decide ((mr : Int) < 255) = false := decide_eq_false hm255
                    have HOK : Hid (okAt p i = true) := Go.Lib.hid (by rw [HA3.out, HR.out, decide_eq_false (show ¬ mr < 255 by omega)]; rfl)
                    clear HA3 HR
                    go_wp2
                    go_quiet (fail)
                    have BW := Go.Lib.hid (Mem.below_drewN wr nq)
                    go_wp2
                    go_roundw
                    case rel => exact ⟨i + 1, by omega, by go_num, Go.Lib.hid (by rw [HNX.out]; exact HOK.out), Go.Lib.hid (hbw.out.trans (BW.out.mono hbw.out.size))⟩
                    case measure => simp [intOf]; omega
                · have d6 : decide (kr = 2) = false := decide_eq_false hk
                  have d7 : (kr == 2) = false := by simp [hk]
                  have HOK : Hid (okAt p i = true) := Go.Lib.hid (by rw [HA3.out, HR.out, d6]; rfl)
                  clear HA3 HR
                  go_wp2
                  go_quiet (fail)
                  have BW := Go.Lib.hid (Mem.below_drewN wr nq)
                  go_wp2
                  go_roundw
                  case rel => exact ⟨i + 1, by omega, by go_num, Go.Lib.hid (by rw [HNX.out]; exact HOK.out), Go.Lib.hid (hbw.out.trans (BW.out.mono hbw.out.size))⟩
                  case measure => simp [intOf]; omega
            · have HNO : Hid (okTo p p.length = false) := Go.Lib.hid (okTo_bad (by rw [HA2.out, decide_eq_false hk1, decide_eq_false hk2]; rfl) hlt)
              have d3 : (ks != 1) = true := by simp [hk1]
              have d4 : (ks != 2) = true := by simp [hk2]
              clear hs hx hks hm HA2 HNX
              go_wp2
              go_ret
              rw [HNO.out]
              exact ⟨rfl, hbw.out⟩
    · obtain rfl : i = p.length := by omega
      have z1 : decide ((p.length : Int) < (p.length : Int)) = false := by simp
      go_wp2
      go_ret
      rw [hok.out]
      exact ⟨rfl, hbw.out⟩
end Go.Proofs.YtanmepgplpijkaaDoor.Att
