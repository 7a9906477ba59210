/- CommParts: the law's walk: both halves of any community, and which are known. -/
import Derived.Test.YtdgfnnjcpoklfaaDoorComm
namespace Go.Proofs.YtdgfnnjcpoklfaaDoor.Com
open Go.RowKit Go.Sort Mem Rise Pfx Dec Nums

theorem few_all (v : Value) (l : List Nat) (k : Nat) (w : World) (hv : U32s w v l) (hk : k ≤ 1000) (hl : l.length ≤ k) :
    Calls Tryd.prog 8 #[v, .int .i64 k] w (Gives32 23 l w) := by
  have := few_any v l k w hv hk
  rwa [List.take_of_length_le hl] at this
/-- What the law holds against 'Known'. -/
theorem known_eq (c : Nat) : knownB c = (((c : Int) == 4294967041) || ((c : Int) == 4294967042) || ((c : Int) == 4294967043)) := by
  unfold knownB
  rw [Bool.eq_iff_iff]
  simp only [Bool.or_eq_true, beq_iff_eq, decide_eq_true_eq]
  omega

set_option maxRecDepth 100000 in
set_option maxHeartbeats 4000000 in
theorem parts_core (va : Value) (l1 : List Nat) (a b c : Nat) (p q r k : Bool) (w : World)
    (ha : a < 65536) (hb : b < 65536) (hce : ((c : Int) == (a : Int) * 65536 + (b : Int)) = true) (tl : l1.length ≤ 40) (BL : Hid (∀ n ∈ l1, n < 4294967296))
    (CF : Hid (Calls Tryd.prog 8 #[va, .int .i64 40] w (Gives32 23 l1 w)))
    (CM : Hid (∀ W, Calls Tryd.prog 20 #[.int .u16 a, .int .u16 b] W fun e w' => e = .returned (.int .u32 c) ∧ W = w'))
    (CP : Hid (∀ W, Calls Tryd.prog 21 #[.int .u32 c] W fun e w' => e = .returned (.tuple #[.int .u16 a, .int .u16 b]) ∧ W = w'))
    (CK : Hid (∀ v (W : World), U32s W v l1 → Calls Tryd.prog 22 #[v] W fun e w' => e = .returned (.tuple #[.bool (p || q), .bool r]) ∧ W = w'))
    (CN : Hid (∀ W, Calls Tryd.prog 23 #[.int .u32 c] W fun e w' => e = .returned (.bool k) ∧ W = w'))
    (H1 : Hid (∀ v (W : World), U32s W v l1 → Calls Tryd.prog 14 #[v, .int .u32 4294967041] W fun e w' => e = .returned (.bool p) ∧ W = w'))
    (H2 : Hid (∀ v (W : World), U32s W v l1 → Calls Tryd.prog 14 #[v, .int .u32 4294967043] W fun e w' => e = .returned (.bool q) ∧ W = w'))
    (H3 : Hid (∀ v (W : World), U32s W v l1 → Calls Tryd.prog 14 #[v, .int .u32 4294967042] W fun e w' => e = .returned (.bool r) ∧ W = w'))
    (x1 x2 x3 : Bool) (e1 : ((c : Int) == 4294967041) = x1) (e2 : ((c : Int) == 4294967042) = x2) (e3 : ((c : Int) == 4294967043) = x3) (HX : Hid (k = (x1 || x2 || x3)))
    (hA : ∃ (A : Option Addr) (n c' : Nat), va = .slice A n c') (HT : Hid (Powers w)) :
    Calls Tryd.prog 4 #[.int .u16 a, .int .u16 b, va] w (Tells (.bool true) w) := by
  obtain ⟨A, n, c', rfl⟩ := hA
  have CL := Go.Lib.hid lives_any
  rw [HX.out] at CN
  clear HX
  have hx : x1 = true ∨ (x1 = false ∧ x2 = true) ∨ (x1 = false ∧ x2 = false ∧ x3 = true) ∨ (x1 = false ∧ x2 = false ∧ x3 = false) := by
    cases x1 <;> cases x2 <;> cases x3 <;> simp
  rcases hx with rfl | ⟨rfl, rfl⟩ | ⟨rfl, rfl, rfl⟩ | ⟨rfl, rfl, rfl⟩ <;> cases p
  all_goals
    simp only [Bool.or_true, Bool.or_false, Bool.true_or, Bool.false_or] at CK CN
    have HB := Go.Lib.hid (Below.refl w.heap.size w)
    go_enter Tryd.func4, Tryd.ntmps4
    go_wp2_with fail
    refine (CM.out _).mono ?_
    rintro e w1 ⟨rfl, rfl⟩
    go_wp2_with fail
    refine (CP.out _).mono ?_
    rintro e w1 ⟨rfl, rfl⟩
    go_wp2_with fail
    refine (CF.out).mono ?_
    rintro e w1 ⟨v1, rfl, o1, hb1⟩
    have f1 := U32s.of_own o1 (BL.out)
    obtain ⟨A1, c1, rfl, -, -, -⟩ := f1.open_
    replace HB := Go.Lib.hid (Below.tr HB.out hb1)
    clear hb1
    go_wp2_with fail
    refine (few_all _ l1 40 _ f1 (by omega) tl).mono ?_
    rintro e w2 ⟨v2, rfl, o2, hb2⟩
    have f3 := U32s.of_own o2 (BL.out)
    obtain ⟨A2, c2, rfl, -, -, -⟩ := f3.open_
    replace f1 := f1.keep hb2
    replace HB := Go.Lib.hid (Below.tr HB.out hb2)
    clear hb2
    go_wp2_with fail
    refine (CK.out _ _ f3).mono ?_
    rintro e w3 ⟨rfl, rfl⟩
    clear f3
    go_wp2_with fail
    refine (CN.out _).mono ?_
    rintro e w4 ⟨rfl, rfl⟩
    go_wp2_with (first | (go_at_call 14; with_reducible refine (H1.out _ _ f1).mono ?_; rintro e w9 ⟨rfl, rfl⟩) | (go_at_call 14; with_reducible refine (H2.out _ _ f1).mono ?_; rintro e w9 ⟨rfl, rfl⟩) | (go_at_call 14; with_reducible refine (H3.out _ _ f1).mono ?_; rintro e w9 ⟨rfl, rfl⟩) | (go_at_call 24; refine (CL.out _ (tab_below HT.out HB.out)).mono ?_; rintro e w9 ⟨rfl, hb9⟩))
    go_ret
    exact ⟨rfl, Below.tr HB.out hb9⟩

theorem parts_walk (a b : Nat) (va : Value) (l : List Nat) (w : World) (ha : a < 65536) (hb : b < 65536) (hl : U32s w va l) (hT : Powers w) :
    Calls Tryd.prog 4 #[.int .u16 a, .int .u16 b, va] w (Tells (.bool true) w) := by
  have bl : ∀ n ∈ l.take 40, n < 4294967296 := fun n hn => hl.2 n (List.mem_of_mem_take hn)
  have tl : (l.take 40).length ≤ 40 := List.length_take_le 40 l
  have CF := few_any va l 40 w hl (by omega)
  have hc : a * 65536 + b < 4294967296 := by omega
  have CP := parts_any (a * 65536 + b) hc
  rw [show (a * 65536 + b) / 65536 = a by omega, show (a * 65536 + b) % 65536 = b by omega] at CP
  exact parts_core va (l.take 40) a b (a * 65536 + b) _ _ _ _ w ha hb (by simp) tl (Go.Lib.hid bl) (Go.Lib.hid CF) (Go.Lib.hid (make_any a b ha hb)) (Go.Lib.hid CP)
    (Go.Lib.hid fun v W h => keeps_any v _ W h) (Go.Lib.hid (known_any _)) (Go.Lib.hid fun v W h => refHas_any v _ 4294967041 W h) (Go.Lib.hid fun v W h => refHas_any v _ 4294967043 W h) (Go.Lib.hid fun v W h => refHas_any v _ 4294967042 W h)
    _ _ _ rfl rfl rfl (Go.Lib.hid (known_eq _)) (by obtain ⟨A, c, rfl, -, -, -⟩ := hl.open_; exact ⟨A, _, c, rfl⟩) (Go.Lib.hid hT)
end Go.Proofs.YtdgfnnjcpoklfaaDoor.Com
