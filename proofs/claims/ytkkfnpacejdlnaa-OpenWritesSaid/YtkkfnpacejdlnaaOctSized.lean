/- The writer's Put, Bytes, Sized and Long. -/
import Derived.Test.YtkkfnpacejdlnaaOctPut
namespace Go.Proofs.Ytkkfnpacejdlnaa.Oct
open Go.RowKit Mem Ahead

theorem put_any (v x : Value) (base : Nat) (l m : List Nat) (F : Nat → Prop) (w : World) (hW : Wr w base v l F) (hx : U8s w x m) (hlen : l.length + m.length ≤ 1000000) (hbase : base ≤ w.heap.size) :
    Calls Try.prog 40 #[v, x] w (AddF base v v (l ++ m) F w) := by
  have CA := Go.Lib.hid (add_any v x base l m F w hW hx hlen hbase)
  clear hW hx
  go_enter Try.func40, Try.ntmps40
  go_wp2_with (go_at_call 39; refine (CA.out).mono ?_; rintro e w1 ⟨F1, rfl, h⟩; have H1 := Go.Lib.hid h; clear h)
  go_ret
  exact ⟨F1, rfl, H1.out⟩
theorem put_nil (x : Value) (w : World) : Calls Try.prog 40 #[.pointer none, x] w (Tells (.pointer none) w) := by
  have CA := Go.Lib.hid add_nil
  go_enter Try.func40, Try.ntmps40
  go_wp2_with (go_at_call 39; refine (CA.out _ _).mono ?_; rintro e w1 ⟨rfl, h⟩; have H1 := Go.Lib.hid h; clear h)
  go_ret
  exact ⟨rfl, H1.out⟩
theorem wbytes_any (v : Value) (base : Nat) (l : List Nat) (F : Nat → Prop) (w : World) (hW : Wr w base v l F) (hlen : l.length ≤ 1000000) : Calls Try.prog 25 #[v] w (Gives8 l w) := by
  obtain ⟨b, s, rfl, h2, h3, h4, h5, h6, rfl⟩ := hW
  obtain ⟨c0, f0⟩ := cell1 h3
  have CC := Go.Lib.hid (clone_any s l w (U8s.of_own h4 h5) hlen)
  clear h2 h3 h4 h5 h6
  go_enter Try.func25, Try.ntmps25
  go_wp2_with (go_at_call 41; refine (CC.out).mono ?_; rintro e w1 ⟨A, c, rfl, h⟩; have H1 := Go.Lib.hid h; clear h)
  go_ret
  exact ⟨A, c, rfl, H1.out⟩
theorem wbytes_nil (w : World) : Calls Try.prog 25 #[.pointer none] w (Gives8 [] w) := by
  have HB := Go.Lib.hid (Below.refl w.heap.size w)
  go_enter Try.func25, Try.ntmps25
  go_wp2
  go_ret
  exact ⟨none, 0, rfl, own_nil8 _ _, HB.out⟩
theorem lies_part {w w1 : World} {F : Nat → Prop} {x : Value} {m : List Nat} (hx : U8s w x m) (hL : Lies w.heap.size F x) (ho : Only F w w1) : U8s w1 x m :=
  hx.part (fun g hg => ho.block g (hL g hg).1 (hL g hg).2) ho.size
theorem two_puts {base : Nat} {v x : Value} {L : List Nat} {F : Nat → Prop} {w w1 w2 : World} (F1 F2 : Nat → Prop) (k1 : Wr w2 base v L F2) (h2 : Only F w w1) (h3 : Grow F F1 w) {l : List Nat} (_h1 : Wr w1 base v l F1) (k2 : Only F1 w1 w2) (k3 : Grow F1 F2 w1) :
    AddF base v x L F w (.returned x) w2 := by
  refine ⟨F2, rfl, k1, ⟨k2.os.trans h2.os, k2.tape.trans h2.tape, k2.output.trans h2.output, Nat.le_trans h2.size k2.size, fun k hk hf => ?_⟩, fun k hk => ?_⟩
  · refine (k2.block k (Nat.lt_of_lt_of_le hk h2.size) (fun h => ?_)).trans (h2.block k hk hf)
    rcases h3 k h with h | h
    · exact hf h
    · omega
  · rcases k3 k hk with h | h
    · exact h3 k h
    · exact .inr (Nat.le_trans h2.size h)
/-- What Sized writes. -/
def sizedS (m : List Nat) : List Nat := if m.length ≤ 255 then [lo8 (m.length : Int)] ++ m else []
set_option maxHeartbeats 1000000 in
theorem sized_any (v : Value) (A : Option Addr) (c : Nat) (base : Nat) (l m : List Nat) (F : Nat → Prop) (w : World) (hW : Wr w base v l F) (hx : U8s w (.slice A m.length c) m) (hL : Lies w.heap.size F (.slice A m.length c)) (hlen : l.length + m.length ≤ 800000) (hbase : base ≤ w.heap.size) :
    Calls Try.prog 21 #[v, .slice A m.length c] w (AddF base v (.bool (decide (m.length ≤ 255))) (l ++ sizedS m) F w) := by
  have hW0 := hW
  obtain ⟨b, s, hv, -⟩ := hW0
  have HW := Go.Lib.hid hW
  by_cases hm : m.length ≤ 255
  · have z1 : (m.length : Int) ≤ 255 := by omega
    have e1 : decide (m.length ≤ 255) = true := decide_eq_true hm
    have e2 : l ++ sizedS m = (l ++ [lo8 (m.length : Int)]) ++ m := by unfold sizedS; rw [if_pos hm, List.append_assoc]
    rw [e1, e2]
    have CU := Go.Lib.hid (w8_put v base l F (m.length : Int) w hW (by omega) hbase)
    have CP := Go.Lib.hid (fun F1 W (h1 : Wr W base v (l ++ [lo8 (m.length : Int)]) F1) (h2 : U8s W (.slice A m.length c) m) (h3 : base ≤ W.heap.size) => put_any v (.slice A m.length c) base (l ++ [lo8 (m.length : Int)]) m F1 W h1 h2 (by simp; omega) h3)
    have HX := Go.Lib.hid (And.intro hx hL)
    have HB := Go.Lib.hid hbase
    clear hx hL hW e1 e2
    generalize [lo8 (m.length : Int)] = H at CU CP ⊢
    subst hv
    go_enter Try.func21, Try.ntmps21
    go_wp2_with (first
      | (go_at_call 20; refine (CU.out).mono ?_; rintro e w1 ⟨F1, rfl, h1, h2, h3⟩; have H1 := Go.Lib.hid h1; have H2 := Go.Lib.hid h2; have H3 := Go.Lib.hid h3; clear h1 h2 h3)
      | (go_at_call 40; have k1 := lies_part HX.out.1 HX.out.2 H2.out; have k2 := H1.out; have k3 := Nat.le_trans HB.out H2.out.size; refine (CP.out _ _ k2 k1 k3).mono ?_; clear k1 k2 k3; rintro e w2 ⟨F2, rfl, h1, h2, h3⟩; have K1 := Go.Lib.hid h1; have K2 := Go.Lib.hid h2; have K3 := Go.Lib.hid h3; clear h1 h2 h3))
    go_ret
    exact two_puts F1 F2 K1.out H2.out H3.out H1.out K2.out K3.out
  · have z1 : (m.length : Int) > 255 := by omega
    have e1 : decide (m.length ≤ 255) = false := decide_eq_false hm
    have e2 : l ++ sizedS m = l := by unfold sizedS; rw [if_neg hm, List.append_nil]
    rw [e1, e2]
    clear hx hL hW e1 e2
    subst hv
    go_enter Try.func21, Try.ntmps21
    go_wp2
    go_ret
    exact ⟨F, rfl, HW.out, Only.refl _ _, fun k hk => .inl hk⟩
theorem sized_nil (x : Value) (w : World) : Calls Try.prog 21 #[.pointer none, x] w (Tells (.bool false) w) := by
  have HB := Go.Lib.hid (Below.refl w.heap.size w)
  go_enter Try.func21, Try.ntmps21
  go_wp2
  go_ret
  exact ⟨rfl, HB.out⟩
/-- What Long writes. -/
def longS (m : List Nat) : List Nat := if m.length ≤ 65535 then [lo8 ((m.length : Int) / 256), lo8 (m.length : Int)] ++ m else []
end Go.Proofs.Ytkkfnpacejdlnaa.Oct
