/- A writer that was written to since a world; its Sized and Long of bytes that need not lie apart. -/
import Derived.Test.YtkkfnpacejdlnaaOctSized
import Derived.Test.YtkkfnpacejdlnaaOctLives
namespace Go.Proofs.Ytkkfnpacejdlnaa.Att
open Go.RowKit Mem Oct

/-- A writer that was written to since the world s. -/
structure Wst (base : Nat) (v : Value) (F0 : Nat → Prop) (s : World) (l : List Nat) (F : Nat → Prop) (W : World) : Prop where
  wr : Wr W base v l F
  on : Only F0 s W
  gr : Grow F0 F s
section
variable {base : Nat} {v x : Value} {F0 F : Nat → Prop} {s W W2 : World} {l l2 : List Nat} {e : Ending}
theorem Wst.new (h : Wr s base v l F) : Wst base v F s l F s := ⟨h, Only.refl _ _, fun _ h => .inl h⟩
theorem Wst.below (h : Wst base v F0 s l F W) (hb : Below W.heap.size W W2) : Wst base v F0 s l F W2 :=
  ⟨h.wr.below hb, h.on.trans (Only.of hb), h.gr⟩
theorem Wst.add (h : Wst base v F0 s l F W) (k : AddF base v x l2 F W e W2) : ∃ F2, e = .returned x ∧ Wst base v F0 s l2 F2 W2 := by
  obtain ⟨F2, h1, h2, h3, h4⟩ := k
  have h5 := two_puts F F2 h2 h.on h.gr h.wr h3 h4 (x := x)
  obtain ⟨F3, e3, k1, k2, k3⟩ := h5
  exact ⟨F3, h1, k1, k2, k3⟩
theorem Wst.size (h : Wst base v F0 s l F W) : s.heap.size ≤ W.heap.size := h.on.size
theorem Wst.then_ {F2 : Nat → Prop} (h : Wst base v F0 s l F W) (k : Wst base v F W l2 F2 W2) : Wst base v F0 s l2 F2 W2 := by
  have h5 := two_puts F F2 k.wr h.on h.gr h.wr k.on k.gr (x := v)
  obtain ⟨F3, e3, k1, k2, k3⟩ := h5
  exact ⟨k.wr, k2, fun j hj => by
    rcases k.gr j hj with q | q
    · exact h.gr j q
    · exact .inr (Nat.le_trans h.size q)⟩
end
theorem Wst.only {base : Nat} {v : Value} {F0 F : Nat → Prop} {s W W2 : World} {l : List Nat} (h : Wst base v F0 s l F W) (ho : Only F W W2) : Only F0 s W2 :=
  ⟨ho.os.trans h.on.os, ho.tape.trans h.on.tape, ho.output.trans h.on.output, Nat.le_trans h.on.size ho.size, fun k hk hf => (ho.block k (Nat.lt_of_lt_of_le hk h.on.size) (fun q => (h.gr k q).elim hf (fun r => by omega))).trans (h.on.block k hk hf)⟩
theorem wr_small {W : World} {base : Nat} {v : Value} {l : List Nat} {F : Nat → Prop} (h : Wr W base v l F) : Small l := let ⟨_, _, _, _, _, _, h5, _⟩ := h; h5
set_option maxHeartbeats 1000000 in
theorem sizedO_any (v : Value) (A : Option Addr) (c : Nat) (base : Nat) (l m : List Nat) (F : Nat → Prop) (w : World) (hW : Wr w base v l F) (hx : ∀ W, Only F w W → U8s W (.slice A m.length c) m) (hlen : l.length + m.length ≤ 800000) (hbase : base ≤ w.heap.size) :
    Calls Try.prog 21 #[v, .slice A m.length c] w (AddF base v (.bool (decide (m.length ≤ 255))) (l ++ sizedS m) F w) := by
  have hW0 := hW
  obtain ⟨b, s, hv, -⟩ := hW0
  have HW := Go.Lib.hid hW
  by_cases hm : m.length ≤ 255
  · have z1 : (m.length : Int) ≤ 255 := by omega
    have e1 : decide (m.length ≤ 255) = true := decide_eq_true hm
    have e2 : l ++ sizedS m = (l ++ [lo8 (m.length : Int)]) ++ m := by unfold sizedS; rw [if_pos hm, List.append_assoc]
    rw [e1, e2]
    have CU := Go.Lib.hid (w8_put v base l F (m.length : Int) w hW (by omega) hbase)
    have CP := Go.Lib.hid (fun F1 W (h1 : Wr W base v (l ++ [lo8 (m.length : Int)]) F1) (h2 : U8s W (.slice A m.length c) m) (h3 : base ≤ W.heap.size) => put_any v (.slice A m.length c) base (l ++ [lo8 (m.length : Int)]) m F1 W h1 h2 (by simp; omega) h3)
    have HX := Go.Lib.hid hx
    have HB := Go.Lib.hid hbase
    clear hx hW e1 e2
    generalize [lo8 (m.length : Int)] = H at CU CP ⊢
    subst hv
    go_enter Try.func21, Try.ntmps21
    go_wp2_with (first
      | (go_at_call 20; refine (CU.out).mono ?_; rintro e w1 ⟨F1, rfl, h1, h2, h3⟩; have H1 := Go.Lib.hid h1; have H2 := Go.Lib.hid h2; have H3 := Go.Lib.hid h3; clear h1 h2 h3)
      | (go_at_call 40; have k1 := HX.out _ H2.out; have k2 := H1.out; have k3 := Nat.le_trans HB.out H2.out.size; refine (CP.out _ _ k2 k1 k3).mono ?_; clear k1 k2 k3; rintro e w2 ⟨F2, rfl, h1, h2, h3⟩; have K1 := Go.Lib.hid h1; have K2 := Go.Lib.hid h2; have K3 := Go.Lib.hid h3; clear h1 h2 h3))
    go_ret
    exact two_puts F1 F2 K1.out H2.out H3.out H1.out K2.out K3.out
  · have z1 : (m.length : Int) > 255 := by omega
    have e1 : decide (m.length ≤ 255) = false := decide_eq_false hm
    have e2 : l ++ sizedS m = l := by unfold sizedS; rw [if_neg hm, List.append_nil]
    rw [e1, e2]
    clear hx hW e1 e2
    subst hv
    go_enter Try.func21, Try.ntmps21
    go_wp2
    go_ret
    exact ⟨F, rfl, HW.out, Only.refl _ _, fun k hk => .inl hk⟩
end Go.Proofs.Ytkkfnpacejdlnaa.Att
