/- walk.fill and walk.Range. -/
import Derived.Test.YtgjdpmpbldofpaaDoorWlkWide
import Derived.Test.YtgjdpmpbldofpaaDoorWlkGrow
import Derived.Test.YtgjdpmpbldofpaaDoorWlkUp
import Derived.Test.YtgjdpmpbldofpaaDoorPkClone
import Derived.ScopeJumps
import Derived.Outline
import Derived.Deep.Cut
namespace Go.Proofs.YtgjdpmpbldofpaaDoor.Wlk
open Go.RowKit Mem Pfx PR Oct

theorem tabz_low {base : Nat} {w w' : World} (h : TabZ w) (hb : Below base w w') (hg : 0 < base) : TabZ w' := var?_below hb gTz hg h
/-- What stands at the label: so much is laid, and the rest begins with x. -/
def AtNext (a b : Nat) (r : Option Nat) (m : Nat) (L : List Pf) (base : Nat) (W : World) (act : Act) (w : World) : Prop :=
  ∃ (n x c2 : Nat) (A2 : Option Addr) (D : List Pf) (y7 y8 y9 y10 y11 y12 y13 y14 y15 y16 y17 y18 y19 y20 y21 y22 y23 y24 y25 y26 y27 y28 y29 : Value), Hid (x ≤ b) ∧ Hid (D ++ fillL x (b + 1) = fillL a (b + 1)) ∧ Hid (n = m + D.length) ∧ Hid (w.ownsRow base 24 2 (.slice A2 n c2) n (pcells (L ++ D))) ∧ Hid (W.grownBy w r) ∧ Hid ((Value.slice A2 n c2).ownBlock = r ∨ ∃ g, (Value.slice A2 n c2).ownBlock = some g ∧ W.heap.size ≤ g) ∧ Hid (Below base W w) ∧
    act = ⟨#[.slice A2 n c2, .int .u32 (x : Nat), .int .u32 (b : Nat), undef, undef, undef, .slice none 0 0, y7, y8, y9, y10, y11, y12, y13, y14, y15, y16, y17, y18, y19, y20, y21, y22, y23, y24, y25, y26, y27, y28, y29], []⟩
def nextM (a : Act) (_ : World) : Nat := match a.tmps[1]! with
  | .int _ n => (4294967296 - n).toNat
  | _ => 0
set_option maxRecDepth 100000 in
set_option maxHeartbeats 8000000 in
theorem fill_any (a b : Nat) (hab : a ≤ b) (hb : b < 4294967296) (A : Option Addr) (c m : Nat) (L : List Pf) (base : Nat) (W : World) (ho : W.ownsRow base 24 2 (.slice A m c) m (pcells L)) (hbase : base ≤ W.heap.size) (hm : m ≤ 90000) (hT : TabZ W) (hg : 0 < base) :
    Calls Tryd.prog 20 #[.slice A m c, .int .u32 a, .int .u32 b] W (GrowsP base (.slice A m c) (m + (fillL a (b + 1)).length) (L ++ fillL a (b + 1)) W) := by
  obtain ⟨i0, E0⟩ := elemP
  have HO := Go.Lib.hid ho
  have HBS := Go.Lib.hid hbase
  have HTZ := Go.Lib.hid (fun (X : World) (h : Below base W X) => tabz_low hT h hg)
  have HLEN := Go.Lib.hid (fill_len 66 a (b + 1) (by omega) (room_start (by omega)))
  have HAB := Go.Lib.hid hab
  clear ho hT hg hab hbase
  go_enter Tryd.func20, Tryd.ntmps20
  go_wp2
  refine wp_scope_up 0 (AtNext a b (Value.slice A m c).ownBlock m L base W) nextM ?_ ?_
  · exact ⟨m, a, c, A, [], _, _, _, _, _, _, _, _, _, _, _, _, _, _, _, _, _, _, _, _, _, _, _, HAB, Go.Lib.hid rfl, Go.Lib.hid rfl, Go.Lib.hid (by rw [List.append_nil]; exact HO.out), Go.Lib.hid (World.grownBy.refl W _), Go.Lib.hid (.inl rfl), Go.Lib.hid (Below.refl _ _), rfl⟩
  · rintro act w' ⟨n, x, c2, A2, D, y7, y8, y9, y10, y11, y12, y13, y14, y15, y16, y17, y18, y19, y20, y21, y22, y23, y24, y25, y26, y27, y28, y29, hx, hD, hn, hown, hgr, hat, hbw, rfl⟩
    have hxb := hx.out
    have hfit := blk_is (a := x) (e := b + 1) (by omega)
    have hjle := blk_le x (b + 1)
    have hgo := fillL_go (a := x) (e := b + 1) (by omega)
    have hn4 : n ≤ 90066 := by
      have h1 := hn.out
      have h2 := HLEN.out
      rw [← hD.out, List.length_append] at h2
      omega
    have HG := Go.Lib.hid (mk_G (a := x) hjle (Nat.dvd_of_mod_eq_zero hfit.1) (by omega))
    have CW := Go.Lib.hid (widest_any x b hxb hb w' (HTZ.out _ hbw.out))
    have CE := Go.Lib.hid (fun (X : World) => show Calls Tryd.prog 16 #[.agg #[.int .u32 x, .int .i64 (mk x (blk x (b + 1))).n]] X (fun e w' => e = .returned (.tuple #[.int .u32 x, .int .u32 ((x + 2 ^ blk x (b + 1) - 1 : Nat) : Int), .bool true]) ∧ Below X.heap.size X w') from by
      have h := ends_any (mk x (blk x (b + 1))) HG.out X
      rw [mk_sz hjle] at h
      exact h)
    obtain ⟨z, hz⟩ : ∃ z, z = 2 ^ blk x (b + 1) := ⟨_, rfl⟩
    have hz1 : 1 ≤ z := by rw [hz]; exact pow_pos _
    have HF := Go.Lib.hid (show x + z ≤ b + 1 by rw [hz]; exact hfit.2)
    obtain ⟨pp, hpp⟩ : ∃ pp, pp = mk x (blk x (b + 1)) := ⟨_, rfl⟩
    have hpa : pp.a = x := by rw [hpp]; rfl
    rw [← hz] at CE hgo
    rw [← hpp] at CE CW HG hgo
    have HGO := Go.Lib.hid hgo
    obtain ⟨u, hu⟩ : ∃ u : Int, u = ((x + z - 1 : Nat) : Int) := ⟨_, rfl⟩
    rw [← hu] at CE
    obtain ⟨pa, pn⟩ := pp
    dsimp only at hpa
    subst hpa
    dsimp only at CE CW
    clear hfit hjle hgo hz hpp hx
    have HBW := Go.Lib.hid (Nat.le_trans HBS.out hbw.out.size)
    go_wp2_with (first
      | (go_at_call 29; refine (CW.out).mono ?_; rintro e w1 ⟨rfl, hb1⟩
         have hB2 : Below w'.heap.size w' ((w1.alloc (.cells #[.int .u32 (pa : Int), .int .i64 pn] 24)).alloc (.cells #[.int .u32 (pa : Int), .int .i64 pn] 24)) := Pfx.Below.tr hb1 (below_new2 w1 _ _)
         have HB2 := Go.Lib.hid hB2
         have O2 := Go.Lib.hid (own_keep hown.out hB2)
         have hrn := row_new2 (w1.alloc (.cells #[.int .u32 (pa : Int), .int .i64 pn] 24)) (.int .u32 (pa : Int)) (.int .i64 pn) 24
         rw [show (w1.alloc (.cells #[.int .u32 (pa : Int), .int .i64 pn] 24)).heap.size = w1.heap.size + 1 by simp] at hrn
         have HRN := Go.Lib.hid hrn
         have HS2 := Go.Lib.hid (show w1.heap.size + 2 = ((w1.alloc (.cells #[.int .u32 (pa : Int), .int .i64 pn] 24)).alloc (.cells #[.int .u32 (pa : Int), .int .i64 pn] 24)).heap.size by simp)
         obtain ⟨c0, c1⟩ := cells_two w1 (.int .u32 (pa : Int)) (.int .i64 pn) 24
         have HD0 := Go.Lib.hid (And.intro (keeps (below_new _ (.cells #[.int .u32 (pa : Int), .int .i64 pn] 24)) c0) (keeps (below_new _ (.cells #[.int .u32 (pa : Int), .int .i64 pn] 24)) c1))
         have HNB := Go.Lib.hid (own_not (own_keep hown.out hb1) (Nat.le_refl w1.heap.size))
         clear hrn hB2 hb1 c0 c1)
      | (at_builtin; refine wpList_append_row rfl (.tmp 14) (.tmp 16) rfl E0 base _ n (pcells (L ++ D)) rfl O2.out _ 1 [.int .u32 pa, .int .i64 pn] rfl ?_ ?_ (by unfold maxLen; omega) (by omega) ?_ (n + 1) rfl ?_; exact HRN.out; exact ones2 _ _ _ _; exact Nat.le_trans HBW.out HB2.out.size; intro A3 c3 w3 hown1 hg1 hat1 hb1; have O3 := Go.Lib.hid (own_snoc (p := ⟨pa, pn⟩) hown1); have G3 := Go.Lib.hid (grown_trans hgr.out (grown_trans (grown_below HB2.out _) hg1 (.inl rfl)) hat.out); have AT3 := Go.Lib.hid (show (Value.slice A3 (n + 1) c3).ownBlock = (Value.slice A m c).ownBlock ∨ ∃ g, (Value.slice A3 (n + 1) c3).ownBlock = some g ∧ W.heap.size ≤ g from hat1.elim (fun h => by rw [h]; exact hat.out) (fun h => .inr ⟨_, h, Nat.le_trans hgr.out.size HB2.out.size⟩)); have BW3 := Go.Lib.hid (hbw.out.trans (Below.trans (HB2.out.mono HBW.out) hb1)); have k0 := (grown_cell hg1 (p := ⟨w1.heap.size, 0, none⟩) (by have := HS2.out; dsimp only; omega) HNB.out).trans HD0.out.1; have k1 := (grown_cell hg1 (p := ⟨w1.heap.size, 1, none⟩) (by have := HS2.out; dsimp only; omega) HNB.out).trans HD0.out.2; clear hown1 hg1 hat1 hb1)
      | (go_at_call 16; have tok := O3.out; refine (CE.out _).mono ?_; rintro e w4 ⟨rfl, hb4⟩; have O4 := Go.Lib.hid (own_keep O3.out hb4); have G4 := Go.Lib.hid (grown_trans G3.out (grown_below hb4 (Value.slice A m c).ownBlock) (.inl rfl)); have BW4 := Go.Lib.hid (BW3.out.trans (hb4.mono (Nat.le_trans HBS.out BW3.out.size))); clear hb4 tok k0 k1; rcases Nat.lt_or_ge (pa + z - 1) b with hlt | hlt))
    · have e1 : ((pa + z - 1 : Nat) : Int) + 1 = ((pa + z : Nat) : Int) := by omega
      rw [e1]
      go_step3
      refine ⟨rfl, ⟨n + 1, pa + z, c3, A3, D ++ [⟨pa, pn⟩], _, _, _, _, _, _, _, _, _, _, _, _, _, _, _, _, _, _, _, _, _, _, _, Go.Lib.hid (by omega), Go.Lib.hid (by rw [← hD.out, HGO.out, List.append_assoc]; rfl), Go.Lib.hid (by rw [List.length_append, hn.out]; rfl), Go.Lib.hid (by rw [← List.append_assoc]; exact O4.out), G4, AT3, BW4, rfl⟩, ?_⟩
      show (4294967296 - ((pa + z : Nat) : Int)).toNat < (4294967296 - (pa : Int)).toNat
      omega
    · simp only [Exit.jump]
      have hall : fillL a (b + 1) = D ++ [⟨pa, pn⟩] := by
        rw [← hD.out, HGO.out, fillL_end (a := pa + z) (by have := HF.out; omega)]
      have hN : m + (fillL a (b + 1)).length = n + 1 := by rw [hall, List.length_append, hn.out]; rfl
      go_ret
      refine ⟨A3, c3, by rw [hN]; rfl, ?_, G4.out, ?_⟩
      · rw [hN, hall, ← List.append_assoc]
        exact O4.out
      · rw [hN]
        exact AT3.out
/-- Range, of two addresses in order and not. -/
def rangeL (a b : Nat) : List Pf := if a ≤ b then fillL a (b + 1) else []
set_option maxHeartbeats 4000000 in
theorem range_any (a b : Nat) (hb : b < 4294967296) (w : World) (hT : TabZ w) (hg : 0 < w.heap.size) : Calls Tryd.prog 19 #[.int .u32 a, .int .u32 b] w (GivesP (rangeL a b) w) := by
  rcases Nat.lt_or_ge b a with h | h
  · have HE := Go.Lib.hid (show rangeL a b = [] from if_neg (by omega))
    have y0 : ((b : Int) < (a : Int)) := by omega
    clear hT hg
    go_enter Tryd.func19, Tryd.ntmps19
    go_wp2
    go_ret
    exact ⟨none, 0, by rw [HE.out]; rfl, by rw [HE.out]; exact own_nil2 _ _, Below.refl _ _⟩
  · have HE := Go.Lib.hid (show rangeL a b = fillL a (b + 1) from if_pos h)
    have y0 : ¬ ((b : Int) < (a : Int)) := by omega
    have y1 : decide ((b : Int) < (a : Int)) = false := decide_eq_false y0
    have CF := Go.Lib.hid (fill_any a b h hb none 0 0 [] w.heap.size w (own_nil2 _ _) (Nat.le_refl _) (by omega) hT hg)
    rw [Nat.zero_add, List.nil_append] at CF
    clear hT hg
    go_enter Tryd.func19, Tryd.ntmps19
    go_wp2_with (go_at_call 20; refine (CF.out).mono ?_; rintro e w1 ⟨A1, c1, rfl, ho, hg1, hat⟩; have O1 := Go.Lib.hid ho; have G1 := Go.Lib.hid hg1; clear ho hg1 hat)
    go_ret
    exact ⟨A1, c1, by rw [HE.out]; rfl, by rw [HE.out]; exact O1.out, ⟨G1.out.os, G1.out.tape, G1.out.output, G1.out.size, fun k hk => G1.out.block k hk (by intro e; cases e)⟩⟩
end Go.Proofs.YtgjdpmpbldofpaaDoor.Wlk
