/- The writer's U8, U16, U32, Put, Bytes, Sized and Long. -/
import Derived.Test.YtgeekckoepnccaaOctAdd
namespace Go.Proofs.Ytgeekckoepnccaa.Oct
open Go.RowKit Mem Ahead

theorem lit8 (w : World) (l : List Nat) (C : Array Value) (n : Nat) (hl : Small l) (hC : C.toList = cells8 l) (hn : n = l.length) (hm : n ≤ 1000000) : U8s (w.alloc (.cells C 5)) (.slice (some ⟨w.heap.size, 0, none⟩) n n) l := by
  subst hn
  have hs : C.size = l.length := by rw [← Array.length_toList, hC, cells8_len]
  exact U8s.of_own (base := 0) (e := 5) ⟨by rw [cells8_len, Nat.mul_one], .inr ⟨w.heap.size, l.length, C, rfl, Nat.zero_le _, heap_alloc_new _ _, Nat.le_refl _, by unfold maxLen; omega, by rw [hs, Nat.mul_one], by rw [hC, Nat.mul_one, List.take_of_length_le (by rw [cells8_len]; exact Nat.le_refl _)]⟩⟩ hl
def lo8 (n : Int) : Nat := (n % 256).toNat
theorem lo8_lt (n : Int) : lo8 n < 256 := by unfold lo8; omega
theorem wrap_lo8 (n : Int) : IntKind.u8.wrap n = (lo8 n : Int) := by rw [IntKind.wrap_u8]; unfold lo8; omega
theorem AddF.from {base : Nat} {v x : Value} {l : List Nat} {F : Nat → Prop} {w w1 w' : World} {e : Ending} (hb : Below w.heap.size w w1) (h : AddF base v x l F w1 e w') : AddF base v x l F w e w' := by
  obtain ⟨F', he, hW, ho, hg⟩ := h
  exact ⟨F', he, hW, (Only.of hb).trans ho, fun k hk => (hg k hk).imp id (fun h => Nat.le_trans hb.size h)⟩
set_option maxHeartbeats 1000000 in
theorem w8_put (v : Value) (base : Nat) (l : List Nat) (F : Nat → Prop) (n : Int) (w : World) (hW : Wr w base v l F) (hlen : l.length ≤ 900000) (hbase : base ≤ w.heap.size) :
    Calls Try.prog 28 #[v, .int .i64 n] w (AddF base v v (l ++ [lo8 n]) F w) := by
  have ha : lo8 n < 256 := lo8_lt _
  have wa := wrap_lo8 n
  generalize lo8 n = a at ha wa ⊢
  have hbl : Below w.heap.size w (w.alloc (.cells #[.int .u8 (a : Nat)] 5)) := (Below.refl _ w).alloc (Nat.le_refl _) _
  have CA := Go.Lib.hid ((add_any v _ base l [a] F _ (hW.below hbl) (lit8 w [a] #[.int .u8 (a : Nat)] 1 (fun y hy => by simp at hy; omega) rfl rfl (by omega)) (by simp; omega) (Nat.le_trans hbase hbl.size)).mono fun e w' h => h.from hbl)
  clear hbl hW ha
  go_enter Try.func28, Try.ntmps28
  go_wp2_with (go_at_call 38; refine (CA.out).mono ?_; rintro e w1 ⟨F1, rfl, h⟩; have H1 := Go.Lib.hid h; clear h)
  go_ret
  exact ⟨F1, rfl, H1.out⟩
theorem w8_nil (n : Int) (w : World) : Calls Try.prog 28 #[.pointer none, .int .i64 n] w (Tells (.pointer none) w) := by
  have CA := Go.Lib.hid add_nil
  have ha : lo8 n < 256 := lo8_lt _
  have wa := wrap_lo8 n
  generalize lo8 n = a at ha wa ⊢
  have HB := Go.Lib.hid (show Below w.heap.size w (w.alloc (.cells #[.int .u8 (a : Nat)] 5)) from (Below.refl _ w).alloc (Nat.le_refl _) _)
  clear ha
  go_enter Try.func28, Try.ntmps28
  go_wp2_with (go_at_call 38; refine (CA.out _ _).mono ?_; rintro e w1 ⟨rfl, h⟩; have H1 := Go.Lib.hid (HB.out.trans (h.mono HB.out.size)); clear h)
  go_ret
  exact ⟨rfl, H1.out⟩
set_option maxHeartbeats 1000000 in
theorem w16_put (v : Value) (base : Nat) (l : List Nat) (F : Nat → Prop) (n : Int) (w : World) (hW : Wr w base v l F) (hlen : l.length ≤ 900000) (hbase : base ≤ w.heap.size) :
    Calls Try.prog 27 #[v, .int .i64 n] w (AddF base v v (l ++ [lo8 (n / 256), lo8 n]) F w) := by
  have ha : lo8 (n / 256) < 256 := lo8_lt _
  have wa := wrap_lo8 (n / 256)
  have hb : lo8 n < 256 := lo8_lt _
  have wb := wrap_lo8 n
  generalize lo8 (n / 256) = a at ha wa ⊢
  generalize lo8 n = b at hb wb ⊢
  have hbl : Below w.heap.size w (w.alloc (.cells #[.int .u8 (a : Nat), .int .u8 (b : Nat)] 5)) := (Below.refl _ w).alloc (Nat.le_refl _) _
  have CA := Go.Lib.hid ((add_any v _ base l [a, b] F _ (hW.below hbl) (lit8 w [a, b] #[.int .u8 (a : Nat), .int .u8 (b : Nat)] 2 (fun y hy => by simp at hy; omega) rfl rfl (by omega)) (by simp; omega) (Nat.le_trans hbase hbl.size)).mono fun e w' h => h.from hbl)
  clear hbl hW ha hb
  go_enter Try.func27, Try.ntmps27
  go_wp2_with (go_at_call 38; refine (CA.out).mono ?_; rintro e w1 ⟨F1, rfl, h⟩; have H1 := Go.Lib.hid h; clear h)
  go_ret
  exact ⟨F1, rfl, H1.out⟩
theorem w16_nil (n : Int) (w : World) : Calls Try.prog 27 #[.pointer none, .int .i64 n] w (Tells (.pointer none) w) := by
  have CA := Go.Lib.hid add_nil
  have ha : lo8 (n / 256) < 256 := lo8_lt _
  have wa := wrap_lo8 (n / 256)
  have hb : lo8 n < 256 := lo8_lt _
  have wb := wrap_lo8 n
  generalize lo8 (n / 256) = a at ha wa ⊢
  generalize lo8 n = b at hb wb ⊢
  have HB := Go.Lib.hid (show Below w.heap.size w (w.alloc (.cells #[.int .u8 (a : Nat), .int .u8 (b : Nat)] 5)) from (Below.refl _ w).alloc (Nat.le_refl _) _)
  clear ha hb
  go_enter Try.func27, Try.ntmps27
  go_wp2_with (go_at_call 38; refine (CA.out _ _).mono ?_; rintro e w1 ⟨rfl, h⟩; have H1 := Go.Lib.hid (HB.out.trans (h.mono HB.out.size)); clear h)
  go_ret
  exact ⟨rfl, H1.out⟩
theorem wrap_nat (x n : Nat) (h : n = x % 256) : IntKind.u8.wrap (x : Int) = ((n : Nat) : Int) := by rw [IntKind.wrap_u8, h]; omega
end Go.Proofs.Ytgeekckoepnccaa.Oct
