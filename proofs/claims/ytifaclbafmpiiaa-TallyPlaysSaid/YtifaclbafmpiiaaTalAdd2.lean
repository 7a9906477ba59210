/- The reference's Add of counts: a key that stands. -/
import Derived.Test.YtifaclbafmpiiaaTalAdd
import Derived.Laws.OwnMore
namespace Go.Proofs.Ytifaclbafmpiiaa.Tal
open Go.RowKit Mem

theorem cnt_set : ∀ (l : List Cnt) (i : Nat) (r : Cnt) (u d : Nat), l[i]? = some r → cntCells (l.set i ⟨r.key, u, d⟩) = ((cntCells l).set (i * 3 + 1) (.int .i64 u)).set (i * 3 + 2) (.int .i64 d)
  | [], i, r, u, d, h => by simp at h
  | x :: l, 0, r, u, d, h => by
    obtain rfl : x = r := by simpa using h
    simp [cntCells_cons, cntCell]
  | x :: l, i + 1, r, u, d, h => by
    have ih := cnt_set l i r u d (by simpa using h)
    rw [List.set_cons_succ, cntCells_cons, ih, cntCells_cons]
    rw [show (i + 1) * 3 + 1 = (cntCell x).length + (i * 3 + 1) by simp [cntCell]; omega, show (i + 1) * 3 + 2 = (cntCell x).length + (i * 3 + 2) by simp [cntCell]; omega]
    rw [List.set_append_right _ _ (by omega), List.set_append_right _ _ (by omega)]
    simp

set_option maxHeartbeats 4000000 in
set_option maxRecDepth 100000 in
theorem radd_old (v : Value) (l : List Cnt) (i : Nat) (r : Cnt) (up down : Nat) (w : World) (hv : Cnts w v l) (hn : idx l r.key = some i) (hr : l[i]? = some r) (hlen : l.length ≤ 2000) (hu : r.up + up ≤ 549755813888) (hd : r.down + down ≤ 549755813888) :
    Calls Try.prog 13 #[v, .int .u32 r.key, .int .i64 up, .int .i64 down] w (GivesC (l.set i ⟨r.key, r.up + up, r.down + down⟩) w) := by
  have hA := at_any v l r.key w hv
  rw [hn] at hA
  have CA := Go.Lib.hid hA
  obtain ⟨i0, E⟩ := elemCnt
  have HV := Go.Lib.hid hv
  obtain ⟨A, c, rfl, hlc, hc⟩ := hv.form
  obtain ⟨b, off, rfl, hbl, _, k1, k2⟩ := hv.at_ hr
  have hil := (List.getElem?_eq_some_iff.1 hr).1
  have HS := Go.Lib.hid (cnt_set l i r (r.up + up) (r.down + down) hr)
  have hcu : (cntCells l)[i * 3 + 1]? = some (.int .i64 r.up) := cntCells_at i l r hr 1 _ rfl
  have hcd : (cntCells l)[i * 3 + 2]? = some (.int .i64 r.down) := cntCells_at i l r hr 2 _ rfl
  have HCU := Go.Lib.hid hcu
  have HCD := Go.Lib.hid hcd
  obtain ⟨key, u0, d0⟩ := r
  simp only at *
  have e9 : idxV (some i) = (i : Int) := rfl
  rw [e9] at CA
  have g0 : decide ((i : Int) < 0) = false := by simp
  have x1 : IntKind.i64.wrap ((u0 : Int) + (up : Int)) = ((u0 + up : Nat) : Int) := by rw [IntKind.wrap_i64]; omega
  have x2 : IntKind.i64.wrap ((d0 : Int) + (down : Int)) = ((d0 + down : Nat) : Int) := by rw [IntKind.wrap_i64]; omega
  have g2 : decide ((549755813888 : Int) < ((u0 + up : Nat) : Int)) = false := by simp; omega
  have g3 : decide ((549755813888 : Int) < ((d0 + down : Nat) : Int)) = false := by simp; omega
  have z0 : (0 : Int) ≤ (i : Int) := by omega
  have z1 : (i : Int) < (l.length : Int) := by omega
  have h0 := World.ownsRow_lit (base := w.heap.size) (e := 32) (size := 3) w #[] 0 (Nat.le_refl _) (Nat.zero_le _) rfl
  have HO0 := Go.Lib.hid h0
  have HR0 := Go.Lib.hid (Row.keep hv ((Below.refl _ w).alloc (Nat.le_refl _) (.cells #[] 32)))
  clear hA hn hv e9 hr hcu hcd h0
  go_enter Try.func13, Try.ntmps13
  go_wp2_with (first
    | (go_at_call 9; refine (CA.out).mono ?_; rintro e w' ⟨rfl, rfl⟩)
    | (at_builtin; refine wpList_append_row rfl (.tmp 79) (.tmp 80) rfl E w.heap.size _ 0 [] rfl HO0.out _ l.length (cntCells l) rfl HR0.out (ones_cnt l) ?_ ?_ ?_ l.length (Nat.zero_add _) ?_; (· unfold maxLen; omega); (· omega); (· simp); intro A1 c1 w1 hown1 hg1 hat1 hb1; rw [List.nil_append] at hown1; obtain ⟨g, cap, e1, hgb, hgs⟩ := hown1.form (by omega); injection e1 with e1 _ e3; subst e1 e3; have HO1 := Go.Lib.hid hown1; have q1 : w1.cell? ⟨g, i * 3 + 1, none⟩ = some (.int .i64 u0) := (hown1.cellAt _ (by omega)).trans HCU.out; have q2 : w1.cell? ⟨g, i * 3 + 2, none⟩ = some (.int .i64 d0) := (hown1.cellAt _ (by omega)).trans HCD.out; have f1 := hown1.frozenAt (i * 3 + 1); have f2 := hown1.frozenAt (i * 3 + 2); have HB1 := Go.Lib.hid (((Below.refl _ w).alloc (Nat.le_refl _) (.cells #[] 32)).trans hb1); clear hown1 hg1 hat1 hb1))
  go_region
  go_wp2
  go_ret2
  have hs1 := (HO1.out.stored (i * 3 + 1) (.int .i64 ((u0 + up : Nat) : Int))).1
  have hs2 := (hs1.stored (i * 3 + 2) (.int .i64 ((d0 + down : Nat) : Int))).1
  have hb2 := ((HB1.out.setCell (p := ⟨g, i * 3 + 1, none⟩) hgb (.int .i64 ((u0 + up : Nat) : Int))).setCell (p := ⟨g, i * 3 + 2, none⟩) hgb (.int .i64 ((d0 + down : Nat) : Int))).drew
  simp only [Int.natCast_add] at hs2 hb2
  refine ⟨.slice (some ⟨g, 0, none⟩) l.length c1, rfl, ?_, hb2⟩
  rw [HS.out, List.length_set]
  simp only [Int.natCast_add]
  exact own_keep hs2 ((Below.refl _ _).drew)
end Go.Proofs.Ytifaclbafmpiiaa.Tal
