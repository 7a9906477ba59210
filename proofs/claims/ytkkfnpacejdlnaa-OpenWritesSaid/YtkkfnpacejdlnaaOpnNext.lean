/- The program's next (a parameter or a capability off a reader), and four (a capability's bytes). -/
import Derived.Test.YtkkfnpacejdlnaaOpnFun
import Derived.Test.YtkkfnpacejdlnaaOctRd
import Derived.Test.YtkkfnpacejdlnaaOctBack
namespace Go.Proofs.Ytkkfnpacejdlnaa.Opn
open Go.RowKit Mem Oct Att

theorem R_base {W : World} {base base' n : Nat} {v : Value} {l : List Nat} {bad : Bool} {F : Nat → Prop} (h : R W base n v l bad F) (hb : base' ≤ base) : R W base' n v l bad F := by
  rcases h with h | ⟨b, s, h1, h2, h3⟩
  · exact .inl h
  · exact .inr ⟨b, s, h1, Nat.le_trans hb h2, h3⟩
def onK (x : Rd) : Nat := x.num 1
def onN (x : Rd) : Nat := (x.go 1).num 1
def on2 (x : Rd) : Rd := (x.go 1).go 1
def onV (x : Rd) : Rd := ⟨got (on2 x).l (on2 x).b (onN x : Nat), fails (on2 x).l (on2 x).b (onN x : Nat)⟩
def onR (x : Rd) : Rd := (on2 x).go (onN x : Nat)
/-- What next gives. -/
def NextF (base n : Nat) (v : Value) (F : Nat → Prop) (x : Rd) (w : World) (e : Ending) (w' : World) : Prop :=
  ∃ b, e = .returned (.tuple #[.int .i64 (onK x : Nat), .pointer (some ⟨b, 0, none⟩)]) ∧ w.heap.size ≤ b ∧ R w' w.heap.size w'.heap.size (.pointer (some ⟨b, 0, none⟩)) (onV x).l (onV x).b (fun k => k = b) ∧ R w' base n v (onR x).l (onR x).b F ∧ Only F w w'
set_option maxRecDepth 100000 in
theorem onext_any (v : Value) (base n : Nat) (x : Rd) (F : Nat → Prop) (w : World) (hs : Small x.l) (hR : R w base n v x.l x.b F) (hn : n ≤ w.heap.size) : Calls Try.prog 43 #[v] w (NextF base n v F x w) := by
  have hN : onN x < 256 := num_lt (x := x.go 1) (Rd.small hs 1) 1
  have S0 := Go.Lib.hid (show R w base n v x.l x.b F ∧ Only F w w from ⟨hR, Only.refl _ _⟩)
  have HN := Go.Lib.hid hn
  have C1 := Go.Lib.hid (fun (W : World) (h : R W base n v x.l x.b F) => show Calls Try.prog 29 #[v] W (fun e w' => e = .returned (.int .i64 (onK x : Nat)) ∧ R w' base n v (x.go 1).l (x.go 1).b F ∧ Only F W w') from u8_any v base n x.l x.b F W hs h)
  have C2 := Go.Lib.hid (fun (W : World) (h : R W base n v (x.go 1).l (x.go 1).b F) => show Calls Try.prog 29 #[v] W (fun e w' => e = .returned (.int .i64 (onN x : Nat)) ∧ R w' base n v (on2 x).l (on2 x).b F ∧ Only F W w') from u8_any v base n (x.go 1).l (x.go 1).b F W (Rd.small hs 1) h)
  have C3 := Go.Lib.hid (fun (W : World) (hn : n ≤ W.heap.size) (h : R W base n v (on2 x).l (on2 x).b F) => show Calls Try.prog 45 #[v, .int .i64 (onN x : Nat)] W (PartF base n v F (on2 x).l (on2 x).b (onN x : Nat) W) from part_any v base n (on2 x).l (on2 x).b F (onN x : Nat) (by simp [Lit.wf, IntKind.min, IntKind.max, IntKind.signed, IntKind.bits]; omega) W hn h)
  unfold NextF
  have HV := Go.Lib.hid (show (onV x).l = got (on2 x).l (on2 x).b (onN x : Nat) ∧ (onV x).b = fails (on2 x).l (on2 x).b (onN x : Nat) ∧ (onR x).l = rest (on2 x).l (on2 x).b (onN x : Nat) ∧ (onR x).b = fails (on2 x).l (on2 x).b (onN x : Nat) from ⟨rfl, rfl, rfl, rfl⟩)
  generalize onV x = V at HV ⊢
  generalize onR x = Y at HV ⊢
  generalize onK x = k at C1 ⊢
  generalize onN x = N at C2 C3 HV
  clear hs hR hn hN
  go_enter Try.func43, Try.ntmps43
  go_wp2_with (first
    | (have h := S2.out; go_at_call 45; first | (refine (C3.out _ (Nat.le_trans HN.out h.2.size) h.1).mono ?_; rintro e z ⟨b, rfl, hb, hV, hR, ho⟩; have S3 := Go.Lib.hid (And.intro hb (And.intro hV (And.intro hR (And.intro h.2.size (h.2.trans ho))))); clear h hb hV hR ho S2) | (trace "FELL P"; trace_state; fail_if_success skip))
    | (have h := S1.out; go_at_call 29; first | (refine (C2.out _ h.1).mono ?_; rintro e z ⟨rfl, hR, ho⟩; have S2 := Go.Lib.hid (And.intro hR (h.2.trans ho)); clear h hR ho S1) | (trace "FELL U2"; trace_state; fail_if_success skip))
    | (have h := S0.out; go_at_call 29; first | (refine (C1.out _ h.1).mono ?_; rintro e z ⟨rfl, hR, ho⟩; have S1 := Go.Lib.hid (And.intro hR (h.2.trans ho)); clear h hR ho S0) | (trace "FELL U1"; trace_state; fail_if_success skip)))
  go_ret2
  obtain ⟨h1, h2, h3, h4, h5⟩ := S3.out
  obtain ⟨e1, e2, e3, e4⟩ := HV.out
  rw [e1, e2, e3, e4]
  exact ⟨b, rfl, Nat.le_trans h4 h1, R_base h2 h4, h3, h5⟩
/-- Two writers that lie apart, and what lay below. -/
structure Two (w0 : World) (P1 P2 : Value) (l1 l2 : List Nat) (F1 F2 : Nat → Prop) (W : World) : Prop where
  fst : Wr W w0.heap.size P1 l1 F1
  snd : Wr W w0.heap.size P2 l2 F2
  apart : ∀ k, F1 k → ¬ F2 k
  low : Below w0.heap.size w0 W
section
variable {w0 W W2 : World} {P1 P2 x : Value} {l1 l2 l : List Nat} {F1 F2 : Nat → Prop} {e : Ending}
theorem Two.below (h : Two w0 P1 P2 l1 l2 F1 F2 W) (hb : Below W.heap.size W W2) : Two w0 P1 P2 l1 l2 F1 F2 W2 :=
  ⟨h.fst.below hb, h.snd.below hb, h.apart, h.low.trans (hb.mono h.low.size)⟩
theorem Two.add1 (h : Two w0 P1 P2 l1 l2 F1 F2 W) (k : AddF w0.heap.size P1 x l F1 W e W2) : ∃ F, e = .returned x ∧ Two w0 P1 P2 l l2 F F2 W2 ∧ (∀ g, F g → F1 g ∨ W.heap.size ≤ g) ∧ Only F1 W W2 := by
  obtain ⟨F, h1, h2, h3, h4⟩ := k
  exact ⟨F, h1, ⟨h2, h.snd.other h3 (fun k h2 h1 => h.apart k h1 h2), fun k hk hf => (h4 k hk).elim (fun q => h.apart k q hf) (fun q => by have := (h.snd.lt k hf).2; omega), h.low.trans (h3.below (fun k hk => (h.fst.lt k hk).1) h.low.size)⟩, h4, h3⟩
theorem Two.add2 (h : Two w0 P1 P2 l1 l2 F1 F2 W) (k : AddF w0.heap.size P2 x l F2 W e W2) : ∃ F, e = .returned x ∧ Two w0 P1 P2 l1 l F1 F W2 ∧ (∀ g, F g → F2 g ∨ W.heap.size ≤ g) ∧ Only F2 W W2 := by
  obtain ⟨F, h1, h2, h3, h4⟩ := k
  exact ⟨F, h1, ⟨h.fst.other h3 (fun k h1 h2 => h.apart k h1 h2), h2, fun k hk hf => (h4 k hf).elim (fun q => h.apart k hk q) (fun q => by have := (h.fst.lt k hk).2; omega), h.low.trans (h3.below (fun k hk => (h.snd.lt k hk).1) h.low.size)⟩, h4, h3⟩
end
theorem two_start (w : World) : Two w (.pointer (some ⟨w.heap.size, 0, none⟩)) (.pointer (some ⟨w.heap.size + 1, 0, none⟩)) [] [] (fun k => k = w.heap.size) (fun k => k = w.heap.size + 1) ((w.alloc (.cells #[.slice none 0 0] 45)).alloc (.cells #[.slice none 0 0] 45)) := by
  have h1 := wr_zero w (Nat.le_refl _)
  have b1 : Below w.heap.size w (w.alloc (.cells #[.slice none 0 0] 45)) := (Below.refl _ w).alloc (Nat.le_refl _) _
  have e1 : (w.alloc (.cells #[.slice none 0 0] 45)).heap.size = w.heap.size + 1 := by simp
  have h2 := wr_zero (w.alloc (.cells #[.slice none 0 0] 45)) (base := w.heap.size) b1.size
  rw [e1] at h2
  exact ⟨h1.below ((Below.refl _ _).alloc (Nat.le_refl _) _), h2, fun k h3 h4 => by omega, b1.alloc b1.size _⟩
/-- Bytes of one's own that lie in none of the writer's blocks. -/
theorem own_apart8 {W W2 W3 : World} {base : Nat} {v x : Value} {l m : List Nat} {F : Nat → Prop} (hW : Wr W base v l F) (ho : W2.ownsRow W.heap.size 5 1 x m.length (cells8 m)) (hm : Small m) (h : Only F W2 W3) : U8s W3 x m :=
  (U8s.of_own ho hm).part (fun g hg => h.block g (ho.lt g hg).2 (fun hf => by have := (hW.lt g hf).2; have := (ho.lt g hg).1; omega)) h.size
def fourB (n : Nat) : List Nat := [65, 4] ++ big n 4
set_option maxRecDepth 100000 in
set_option maxHeartbeats 2000000 in
theorem four_any (n : Nat) (w : World) : Calls Try.prog 22 #[.int .u32 n] w (Gives8 (fourB n) w) := by
  have S0 := Go.Lib.hid (two_start w)
  have E4 := Go.Lib.hid (put4 n)
  have E1 := Go.Lib.hid (show ([] : List Nat) ++ [lo8 65] ++ sizedS (big n 4) = fourB n from by unfold sizedS fourB; rw [if_pos (by rw [big_len]; omega), big_len]; rfl)
  have EL := Go.Lib.hid (show (big n 4).length = 4 from big_len n 4)
  have ES := Go.Lib.hid (big_small n 4)
  have EF := Go.Lib.hid (show (fourB n).length = 6 from by unfold fourB; simp [big_len])
  generalize fourB n = M at E1 EF ⊢
  generalize big n 4 = D at E4 E1 EL ES
  go_enter Try.func22, Try.ntmps22
  go_wp2_with (first
    | (have h := S0.out; go_at_call 24; first | (refine (w32_put _ _ _ _ n _ h.snd (by simp) h.low.size).mono ?_; intro e z hA; obtain ⟨F, rfl, hS, -, -⟩ := h.add2 hA; rw [E4.out, List.nil_append] at hS; have S1 := Go.Lib.hid hS; clear h hA hS S0) | (trace "FELL U32"; trace_state; fail_if_success skip))
    | (have h := S1.out; go_at_call 20; first | (refine (w8_put _ _ _ _ 65 _ h.fst (by simp) h.low.size).mono ?_; intro e z hA; obtain ⟨G, rfl, hS, -, -⟩ := h.add1 hA; have S2 := Go.Lib.hid hS; clear h hA hS S1) | (trace "FELL U8"; trace_state; fail_if_success skip))
    | (have h := S2.out; go_at_call 25; first | (refine (wbytes_any _ _ _ _ _ h.snd (by rw [EL.out]; omega)).mono ?_; rintro e z ⟨A, c, rfl, ho, hb⟩; have U := Go.Lib.hid (fun W3 => @own_apart8 _ _ W3 _ _ _ _ _ _ h.fst ho ES.out); have S3 := Go.Lib.hid (h.below hb); clear h ho hb S2) | (trace "FELL B"; trace_state; fail_if_success skip))
    | (have h := S3.out; go_at_call 21; first | (refine (sizedO_any _ A c _ _ D _ _ h.fst (fun W3 hk => U.out W3 hk) (by simp [EL.out]) h.low.size).mono ?_; intro e z hA; obtain ⟨H, rfl, hS, -, -⟩ := h.add1 hA; rw [E1.out] at hS; have S4 := Go.Lib.hid hS; clear h hA hS S3) | (trace "FELL S"; trace_state; fail_if_success skip))
    | (have h := S4.out; go_at_call 25; first | (refine (wbytes_any _ _ _ _ _ h.fst (by rw [EF.out]; omega)).mono ?_; rintro e z ⟨A2, c2, rfl, ho, hb⟩; have U2 := Go.Lib.hid (And.intro ho (And.intro h.low hb)); clear h ho hb S4) | (trace "FELL B2"; trace_state; fail_if_success skip)))
  go_ret
  obtain ⟨h1, h2, h3⟩ := U2.out
  exact ⟨A2, c2, rfl, own_base h1 h2.size, h2.trans (h3.mono h2.size)⟩
end Go.Proofs.Ytkkfnpacejdlnaa.Opn
