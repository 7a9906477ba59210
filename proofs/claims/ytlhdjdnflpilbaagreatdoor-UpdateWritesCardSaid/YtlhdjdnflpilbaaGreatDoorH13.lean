/- A copy of bytes; a new reader; the law's Bytes; the reference's Num and Big. The reference's Big: a number's lowest bytes. A writer as it stands in memory; what its calls write. The writer's U8, U16, U32, Put, Bytes, Sized and Long. The writer's Put, Bytes, Sized and Long. The laws' small living call. What was written is read again: bytes of numbers, ahead of other bytes. A writer, and a row of bytes beside it: how both are kept. A writer that was written to since a world; its Sized and Long of bytes that need not lie apart. -/
import Derived.Test.YtlhdjdnflpilbaaGreatDoorH12
import Derived.Lib.SliceRun
namespace Go.Proofs.YtlhdjdnflpilbaaGreatDoor.Oct
open Go.RowKit Mem Ahead
def Gives8 (l : List Nat) (w : World) (e : Ending) (w' : World) : Prop :=
 ∃ A c, e = .returned (.slice A l.length c) ∧ w'.ownsRow w.heap.size 5 1 (.slice A l.length c) l.length (cells8 l) ∧ Below w.heap.size w w'
theorem own_nil8 (w : World) (base : Nat) : w.ownsRow base 5 1 (.slice none 0 0) 0 (cells8 []) := ⟨rfl, .inl ⟨rfl, rfl⟩⟩
set_option maxHeartbeats 1000000 in
theorem clone_any (v : Value) (l : List Nat) (w : World) (hv : U8s w v l) (hl : l.length ≤ 1000000) : Calls Tryz.prog 64 #[v] w (Gives8 l w) := by
 obtain ⟨i0, E0⟩ := elem8
 obtain ⟨A, c, rfl, hlc, hc⟩ := hv.form
 have HV := Go.Lib.hid hv
 have h0 : (w.alloc (.cells #[] 5)).ownsRow w.heap.size 5 1 (.slice (some ⟨w.heap.size, 0, none⟩) 0 0) 0 (cells8 []) := own_blk (Nat.le_refl _) (heap_alloc_new _ _)
 have H0 := Go.Lib.hid h0
 have HR := Go.Lib.hid ((hv.keep ((Below.refl _ w).alloc (Nat.le_refl _) (.cells #[] 5))).1)
 have HB := Go.Lib.hid (Below.refl w.heap.size w)
 have q8 : ∀ (W : World) (a : Option Addr) (n c n' c' : Nat), (binOp .eql 31 (.slice a n c) (.slice none n' c')).run Tryz.prog W = .ok (.bool a.isNone) W := fun W a n c n' c' => Lib.run_eql_slice_nil W _ _ a n c n' c' Tryz.underlying31
 clear hv h0
 cases A with
 | none =>
  obtain rfl : l = [] := by
   obtain ⟨⟨_, _, _, e, _, _, hr⟩, _⟩ := HV.out
   injection e with e1 e2 e3
   subst e1
   rcases Nat.eq_zero_or_pos l.length with h | h
   ·exact List.eq_nil_of_length_eq_zero h
   ·obtain ⟨_, _, h0, _⟩ := hr h
    cases h0
  go_enter Tryz.func64, Tryz.ntmps64
  go_wp2
  go_ret
  exact ⟨none, 0, rfl, own_nil8 _ _, HB.out⟩
 | some ad =>
  go_enter Tryz.func64, Tryz.ntmps64
  go_wp2_with (at_builtin; refine wpList_append_row rfl (.tmp 5) (.tmp 6) rfl E0 w.heap.size _ 0 _ rfl H0.out _ l.length (cells8 l) rfl HR.out (ones8 _) (by unfold maxLen; omega) (by omega) (by simp) (l.length) (Nat.zero_add _) ?_; intro A1 c1 w1 hown1 hg1 hat1 hb1; have HO := Go.Lib.hid hown1; have HB1 := Go.Lib.hid hb1; clear hown1 hg1 hat1 hb1)
  go_ret
  refine ⟨_, _, rfl, HO.out, ?_⟩
  exact ((Below.refl _ w).alloc (Nat.le_refl _) _).trans HB1.out
def NewF (l : List Nat) (w : World) (e : Ending) (w' : World) : Prop :=
 ∃ b, e = .returned (.pointer (some ⟨b, 0, none⟩)) ∧ R w' w.heap.size w'.heap.size (.pointer (some ⟨b, 0, none⟩)) l false (fun k => k = b) ∧ Below w.heap.size w w'
theorem new_of {l : List Nat} {w w1 : World} {A : Option Addr} {c : Nat} (hl : Small l) (ho : w1.ownsRow w.heap.size 5 1 (.slice A l.length c) l.length (cells8 l)) (hb : Below w.heap.size w w1) :
  NewF l w (.returned (.pointer (some ⟨w1.heap.size, 0, none⟩))) (w1.alloc (.cells #[.slice A l.length c, .bool false] 103)) := by
 have hb1 : Below w1.heap.size w1 (w1.alloc (.cells #[.slice A l.length c, .bool false] 103)) := (Below.refl _ w1).alloc (Nat.le_refl _) _
 have hsz : (w1.alloc (.cells #[.slice A l.length c, .bool false] 103)).heap.size = w1.heap.size + 1 := by simp
 refine ⟨w1.heap.size, rfl, .inr ⟨w1.heap.size, _, rfl, hb.size, by rw [hsz]; omega, Nat.le_refl _, heap_alloc_new _ _, (U8s.of_own ho hl).keep hb1, fun g hg => ?_, (fun h => by cases h), rfl⟩, hb.trans (hb1.mono hb.size)⟩
 have := (ho.lt g hg).2
 rw [hsz]
 exact ⟨by omega, by omega⟩
theorem new_any (v : Value) (l : List Nat) (w : World) (hv : U8s w v l) (hl : l.length ≤ 1000000) : Calls Tryz.prog 40 #[v] w (NewF l w) := by
 have CC := Go.Lib.hid (clone_any v l w hv hl)
 have HS := Go.Lib.hid hv.2
 clear hv
 go_enter Tryz.func40, Tryz.ntmps40
 go_wp2_with (go_at_call 64; refine CC.out.mono ?_; rintro e w1 ⟨A, c, rfl, ho, hb⟩; have H1 := Go.Lib.hid (new_of HS.out ho hb); clear ho hb)
 go_ret
 exact H1.out
end Go.Proofs.YtlhdjdnflpilbaaGreatDoor.Oct
namespace Go.Proofs.YtlhdjdnflpilbaaGreatDoor.Oct
open Go.RowKit Mem Ahead
def big (n : Nat) : Nat → List Nat
 | 0 => []
 | k + 1 => n / 256 ^ k % 256 :: big n k
theorem big_len (n : Nat) : ∀ k, (big n k).length = k
 | 0 => rfl
 | k + 1 => by simp [big, big_len n k]
theorem big_small (n : Nat) : ∀ k, Small (big n k)
 | 0 => small_nil
 | k + 1 => fun x hx => by
  simp only [big, List.mem_cons] at hx
  rcases hx with rfl | hx
  ·omega
  ·exact big_small n k x hx
theorem own_one8 {w : World} {base : Nat} (x : Value) (hb : base ≤ w.heap.size) : (w.alloc (.cells #[x] 5)).ownsRow base 5 1 (.slice (some ⟨w.heap.size, 0, none⟩) 1 1) 1 [x] :=
 ⟨rfl, .inr ⟨w.heap.size, 1, #[x], rfl, hb, heap_alloc_new _ _, Nat.le_refl _, by decide, rfl, rfl⟩⟩
set_option maxHeartbeats 1000000 in
theorem big_any (n k : Nat) (w : World) (hn : n < 18446744073709551616) (hk : k ≤ 4) : Calls Tryz.prog 39 #[.int .u64 n, .int .i64 k] w (Gives8 (big n k) w) := by
 obtain ⟨i0, E0⟩ := elem8
 have h0 : (w.alloc (.cells #[] 5)).ownsRow w.heap.size 5 1 (.slice (some ⟨w.heap.size, 0, none⟩) 0 0) 0 (cells8 []) := own_blk (Nat.le_refl _) (heap_alloc_new _ _)
 go_enter Tryz.func39, Tryz.ntmps39
 go_wp2
 go_loopw [0, 5, 6] (fun v0 v5 v6 wx => ∃ (j m : Nat) (A : Option Addr) (c : Nat), j ≤ k ∧ v6 = .int .i64 j ∧ Hid (m = n / 256 ^ j) ∧ m < 18446744073709551616 ∧ v0 = .int .u64 m ∧ v5 = .slice A j c ∧ Hid (wx.ownsRow w.heap.size 5 1 (.slice A j c) j (cells8 (big n j))) ∧ Hid (Below w.heap.size w wx)) (fun _ _ v6 _ => k - (intOf v6).toNat)
 case atStart => exact ⟨0, n, _, 0, Nat.zero_le _, rfl, Go.Lib.hid (by simp), hn, rfl, rfl, Go.Lib.hid h0, Go.Lib.hid ((Below.refl _ _).alloc (Nat.le_refl _) _)⟩
 case round =>
  obtain ⟨j, m, A, c, hj, rfl, hm, hm2, rfl, rfl, hown, hb⟩ := hrel
  by_cases hlt : j < k
  ·have z1 : (j : Int) < (k : Int) := by omega
   have HN := Go.Lib.hid (own_one8 (w := wr) (base := w.heap.size) (.int .u8 ((m % 256 : Nat) : Int)) hb.out.size)
   have HR := Go.Lib.hid ((Row.of_own hown.out).keep ((Below.refl _ wr).alloc (Nat.le_refl _) (.cells #[.int .u8 ((m % 256 : Nat) : Int)] 5)))
   have hd : m / 256 < 18446744073709551616 := by omega
   have hb1 := (Below.refl _ wr).alloc (Nat.le_refl _) (.cells #[.int .u8 ((m % 256 : Nat) : Int)] 5)
   have HB2 := Go.Lib.hid (hb.out.trans (hb1.mono hb.out.size))
   clear hb1
   have hs : w.heap.size ≤ wr.heap.size := hb.out.size
   go_wp2_with (at_builtin; refine wpList_append_row rfl (.tmp 16) (.tmp 17) rfl E0 w.heap.size _ 1 _ rfl HN.out _ j _ rfl HR.out (ones8 _) (by unfold maxLen; omega) (by omega) (by simp; omega) (j + 1) (Nat.add_comm 1 j) ?_; intro A1 c1 w1 hown1 hg1 hat1 hb1; have HO := Go.Lib.hid hown1; have HB1 := Go.Lib.hid hb1; clear hown1 hg1 hat1 hb1)
   go_roundw
   case rel => exact ⟨j + 1, m / 256, A1, c1, hlt, by go_num, Go.Lib.hid (by rw [hm.out, Nat.pow_succ, Nat.div_div_eq_div_mul]), hd, by go_num, rfl, Go.Lib.hid (by have := HO.out; rw [hm.out] at this; exact this), Go.Lib.hid (HB2.out.trans (HB1.out))⟩
   case measure => simp [intOf]; omega
  ·obtain rfl : j = k := by omega
   go_wp2
   go_ret
   exact ⟨A, c, by rw [big_len]; rfl, by rw [big_len]; exact hown.out, hb.out⟩
end Go.Proofs.YtlhdjdnflpilbaaGreatDoor.Oct
namespace Go.Proofs.YtlhdjdnflpilbaaGreatDoor.Oct
open Go.RowKit Mem Ahead
def Wr (W : World) (base : Nat) (v : Value) (l : List Nat) (F : Nat → Prop) : Prop :=
 ∃ b s, v = .pointer (some ⟨b, 0, none⟩) ∧ base ≤ b ∧ W.heap[b]? = some (.cells #[s] 52) ∧ W.ownsRow base 5 1 s l.length (cells8 l) ∧ Small l ∧ s.ownBlock ≠ some b ∧ F = fun k => k = b ∨ s.ownBlock = some k
def Grow (F F' : Nat → Prop) (W : World) : Prop := ∀ k, F' k → F k ∨ W.heap.size ≤ k
theorem Wr.lt {W : World} {base : Nat} {v : Value} {l : List Nat} {F : Nat → Prop} (h : Wr W base v l F) : ∀ k, F k → base ≤ k ∧ k < W.heap.size := by
 obtain ⟨b, s, rfl, h2, h3, h4, h5, h6, rfl⟩ := h
 rintro k (rfl | hk)
 ·exact ⟨h2, (Array.getElem?_eq_some_iff.1 h3).1⟩
 ·exact h4.lt k hk
theorem own_same {W W' : World} {base : Nat} {e : TypeId} {v : Value} {n : Nat} {xs : List Value} (h : W.ownsRow base e 1 v n xs) (hk : ∀ g, v.ownBlock = some g → W'.heap[g]? = W.heap[g]?) : W'.ownsRow base e 1 v n xs := by
 obtain ⟨h1, h2⟩ := h
 refine ⟨h1, ?_⟩
 rcases h2 with h2 | ⟨g, cap, cur, hv, hg, hh, r⟩
 ·exact .inl h2
 ·exact .inr ⟨g, cap, cur, hv, hg, (hk g (by rw [hv]; rfl)).trans hh, r⟩
theorem Wr.keep {W W' : World} {base : Nat} {v : Value} {l : List Nat} {F : Nat → Prop} (h : Wr W base v l F) (hk : ∀ k, F k → W'.heap[k]? = W.heap[k]?) : Wr W' base v l F := by
 obtain ⟨b, s, h1, h2, h3, h4, h5, h6, rfl⟩ := h
 exact ⟨b, s, h1, h2, (hk b (.inl rfl)).trans h3, own_same h4 (fun g hg => hk g (.inr hg)), h5, h6, rfl⟩
theorem Wr.below {W W' : World} {base : Nat} {v : Value} {l : List Nat} {F : Nat → Prop} (h : Wr W base v l F) (hb : Below W.heap.size W W') : Wr W' base v l F :=
 h.keep fun k hk => hb.block k (h.lt k hk).2
theorem cell1 {W : World} {b : Nat} {x : Value} {t : TypeId} (h : W.heap[b]? = some (.cells #[x] t)) : W.cell? ⟨b, 0, none⟩ = some x ∧ W.frozen? ⟨b, 0, none⟩ = false := by
 simp [World.cell?, World.frozen?, h]
def AddF (base : Nat) (v x : Value) (l : List Nat) (F : Nat → Prop) (w : World) (e : Ending) (w' : World) : Prop :=
 ∃ F', e = .returned x ∧ Wr w' base v l F' ∧ Only F w w' ∧ Grow F F' w
theorem add_end {base b : Nat} {s : Value} {A1 : Option Addr} {c1 : Nat} {l m : List Nat} {w w1 W : World} (hb0 : base ≤ b) (h3 : w.heap[b]? = some (.cells #[s] 52)) (h6 : s.ownBlock ≠ some b) (hl : Small l) (hm : Small m)
  (hown : w1.ownsRow base 5 1 (.slice A1 (l ++ m).length c1) (l ++ m).length (cells8 l ++ cells8 m)) (hg : w.grownBy w1 s.ownBlock) (hat : (Value.slice A1 (l ++ m).length c1).ownBlock = s.ownBlock ∨ (Value.slice A1 (l ++ m).length c1).ownBlock = some w.heap.size)
  (hW : W = w1.setCell ⟨b, 0, none⟩ (.slice A1 (l ++ m).length c1)) :
  AddF base (.pointer (some ⟨b, 0, none⟩)) (.pointer (some ⟨b, 0, none⟩)) (l ++ m) (fun k => k = b ∨ s.ownBlock = some k) w (.returned (.pointer (some ⟨b, 0, none⟩))) W := by
 subst hW
 have hlt : b < w.heap.size := (Array.getElem?_eq_some_iff.1 h3).1
 have hb1 : w1.heap[b]? = some (.cells #[s] 52) := (hg.block b hlt (fun e => h6 e.symm)).trans h3
 have hne : (Value.slice A1 (l ++ m).length c1).ownBlock ≠ some b := by
  rcases hat with h | h
  ·rw [h]; exact h6
  ·rw [h]; intro e; injection e with e; omega
 have ho1 : Only (fun k => k = b ∨ s.ownBlock = some k) w w1 := ⟨hg.os, hg.tape, hg.output, hg.size, fun k hk hf => hg.block k hk (fun e => hf (.inr e.symm))⟩
 refine ⟨fun k => k = b ∨ (Value.slice A1 (l ++ m).length c1).ownBlock = some k, rfl, ⟨b, _, rfl, hb0, one_setCell hb1, ?_, hl.append hm, hne, rfl⟩, ho1.set (.inl rfl) _, fun k hk => ?_⟩
 ·rw [cells8_append]
  exact own_same hown fun g hg => Below.heap_setCell _ _ _ _ (fun e => hne (by rw [hg, e]))
 ·rcases hk with rfl | hk
  ·exact .inl (.inl rfl)
  ·rcases hat with h | h
   ·exact .inl (.inr (h ▸ hk))
   ·rw [hk] at h
    injection h with h
    exact .inr (by omega)
set_option maxHeartbeats 1000000 in
theorem add_any (v x : Value) (base : Nat) (l m : List Nat) (F : Nat → Prop) (w : World) (hW : Wr w base v l F) (hx : U8s w x m) (hlen : l.length + m.length ≤ 1000000) (hbase : base ≤ w.heap.size) :
  Calls Tryz.prog 63 #[v, x] w (AddF base v v (l ++ m) F w) := by
 obtain ⟨i0, E0⟩ := elem8
 obtain ⟨b, s, rfl, h2, h3, h4, h5, h6, rfl⟩ := hW
 obtain ⟨c0, f0⟩ := cell1 h3
 have hlt : b < w.heap.size := (Array.getElem?_eq_some_iff.1 h3).1
 have H2 := Go.Lib.hid h2
 have H3 := Go.Lib.hid h3
 have H4 := Go.Lib.hid h4
 have H5 := Go.Lib.hid h5
 have H6 := Go.Lib.hid h6
 have HX := Go.Lib.hid hx
 have HN := Go.Lib.hid (show (l ++ m).length = l.length + m.length from List.length_append)
 have HEND := Go.Lib.hid (fun A1 c1 w1 W => @add_end base b s A1 c1 l m w w1 W h2 h3 h6 h5 hx.2)
 clear h2 h3 h4 h5 h6 hx
 generalize (l ++ m).length = N at HN HEND
 go_enter Tryz.func63, Tryz.ntmps63
 go_wp2_with (at_builtin; refine wpList_append_row rfl (.tmp 11) (.tmp 12) rfl E0 base s l.length _ rfl H4.out x m.length _ rfl HX.out.1 (ones8 _) (by unfold maxLen; omega) (by omega) hbase N (HN.out.symm) ?_; intro A1 c1 w1 hown1 hg1 hat1 hb1; obtain ⟨c1', f1'⟩ := cell1 ((hg1.block b hlt (fun e => H6.out e.symm)).trans H3.out); have HE := Go.Lib.hid (HEND.out A1 c1 w1 _ hown1 hg1 hat1 rfl); clear hown1 hg1 hat1 hb1)
 go_ret
 exact HE.out
end Go.Proofs.YtlhdjdnflpilbaaGreatDoor.Oct
namespace Go.Proofs.YtlhdjdnflpilbaaGreatDoor.Oct
open Go.RowKit Mem Ahead
theorem lit8 (w : World) (l : List Nat) (C : Array Value) (n : Nat) (hl : Small l) (hC : C.toList = cells8 l) (hn : n = l.length) (hm : n ≤ 1000000) : U8s (w.alloc (.cells C 5)) (.slice (some ⟨w.heap.size, 0, none⟩) n n) l := by
 subst hn
 have hs : C.size = l.length := by rw [← Array.length_toList, hC, cells8_len]
 exact U8s.of_own (base := 0) (e := 5) ⟨by rw [cells8_len, Nat.mul_one], .inr ⟨w.heap.size, l.length, C, rfl, Nat.zero_le _, heap_alloc_new _ _, Nat.le_refl _, by unfold maxLen; omega, by rw [hs, Nat.mul_one], by rw [hC, Nat.mul_one, List.take_of_length_le (by rw [cells8_len]; exact Nat.le_refl _)]⟩⟩ hl
def lo8 (n : Int) : Nat := (n % 256).toNat
theorem lo8_lt (n : Int) : lo8 n < 256 := by unfold lo8; omega
theorem wrap_lo8 (n : Int) : IntKind.u8.wrap n = (lo8 n : Int) := by rw [IntKind.wrap_u8]; unfold lo8; omega
theorem AddF.from {base : Nat} {v x : Value} {l : List Nat} {F : Nat → Prop} {w w1 w' : World} {e : Ending} (hb : Below w.heap.size w w1) (h : AddF base v x l F w1 e w') : AddF base v x l F w e w' := by
 obtain ⟨F', he, hW, ho, hg⟩ := h
 exact ⟨F', he, hW, (Only.of hb).trans ho, fun k hk => (hg k hk).imp id (fun h => Nat.le_trans hb.size h)⟩
set_option maxHeartbeats 1000000 in
theorem w8_put (v : Value) (base : Nat) (l : List Nat) (F : Nat → Prop) (n : Int) (w : World) (hW : Wr w base v l F) (hlen : l.length ≤ 900000) (hbase : base ≤ w.heap.size) :
  Calls Tryz.prog 56 #[v, .int .i64 n] w (AddF base v v (l ++ [lo8 n]) F w) := by
 have ha : lo8 n < 256 := lo8_lt _
 have wa := wrap_lo8 n
 generalize lo8 n = a at ha wa ⊢
 have hbl : Below w.heap.size w (w.alloc (.cells #[.int .u8 (a : Nat)] 5)) := (Below.refl _ w).alloc (Nat.le_refl _) _
 have CA := Go.Lib.hid ((add_any v _ base l [a] F _ (hW.below hbl) (lit8 w [a] #[.int .u8 (a : Nat)] 1 (fun y hy => by simp at hy; omega) rfl rfl (by omega)) (by simp; omega) (Nat.le_trans hbase hbl.size)).mono fun e w' h => h.from hbl)
 clear hbl hW ha
 go_enter Tryz.func56, Tryz.ntmps56
 go_wp2_with (go_at_call 63; refine (CA.out).mono ?_; rintro e w1 ⟨F1, rfl, h⟩; have H1 := Go.Lib.hid h; clear h)
 go_ret
 exact ⟨F1, rfl, H1.out⟩
set_option maxHeartbeats 1000000 in
theorem w16_put (v : Value) (base : Nat) (l : List Nat) (F : Nat → Prop) (n : Int) (w : World) (hW : Wr w base v l F) (hlen : l.length ≤ 900000) (hbase : base ≤ w.heap.size) :
  Calls Tryz.prog 62 #[v, .int .i64 n] w (AddF base v v (l ++ [lo8 (n / 256), lo8 n]) F w) := by
 have ha : lo8 (n / 256) < 256 := lo8_lt _
 have wa := wrap_lo8 (n / 256)
 have hb : lo8 n < 256 := lo8_lt _
 have wb := wrap_lo8 n
 generalize lo8 (n / 256) = a at ha wa ⊢
 generalize lo8 n = b at hb wb ⊢
 have hbl : Below w.heap.size w (w.alloc (.cells #[.int .u8 (a : Nat), .int .u8 (b : Nat)] 5)) := (Below.refl _ w).alloc (Nat.le_refl _) _
 have CA := Go.Lib.hid ((add_any v _ base l [a, b] F _ (hW.below hbl) (lit8 w [a, b] #[.int .u8 (a : Nat), .int .u8 (b : Nat)] 2 (fun y hy => by simp at hy; omega) rfl rfl (by omega)) (by simp; omega) (Nat.le_trans hbase hbl.size)).mono fun e w' h => h.from hbl)
 clear hbl hW ha hb
 go_enter Tryz.func62, Tryz.ntmps62
 go_wp2_with (go_at_call 63; refine (CA.out).mono ?_; rintro e w1 ⟨F1, rfl, h⟩; have H1 := Go.Lib.hid h; clear h)
 go_ret
 exact ⟨F1, rfl, H1.out⟩
set_option maxHeartbeats 1000000 in
theorem w32_put (v : Value) (base : Nat) (l : List Nat) (F : Nat → Prop) (n : Nat) (w : World) (hW : Wr w base v l F) (hlen : l.length ≤ 900000) (hbase : base ≤ w.heap.size) :
  Calls Tryz.prog 95 #[v, .int .u32 n] w (AddF base v v (l ++ [lo8 (n / 16777216 : Int), lo8 (n / 65536 : Int), lo8 (n / 256 : Int), lo8 n]) F w) := by
 have ha : lo8 (n / 16777216 : Int) < 256 := lo8_lt _
 have wa := wrap_lo8 (n / 16777216 : Int)
 have hb : lo8 (n / 65536 : Int) < 256 := lo8_lt _
 have wb := wrap_lo8 (n / 65536 : Int)
 have hc : lo8 (n / 256 : Int) < 256 := lo8_lt _
 have wc := wrap_lo8 (n / 256 : Int)
 have hd : lo8 n < 256 := lo8_lt _
 have wd := wrap_lo8 n
 generalize lo8 (n / 16777216 : Int) = a at ha wa ⊢
 generalize lo8 (n / 65536 : Int) = b at hb wb ⊢
 generalize lo8 (n / 256 : Int) = c at hc wc ⊢
 generalize lo8 n = d at hd wd ⊢
 have hbl : Below w.heap.size w (w.alloc (.cells #[.int .u8 (a : Nat), .int .u8 (b : Nat), .int .u8 (c : Nat), .int .u8 (d : Nat)] 5)) := (Below.refl _ w).alloc (Nat.le_refl _) _
 have CA := Go.Lib.hid ((add_any v _ base l [a, b, c, d] F _ (hW.below hbl) (lit8 w [a, b, c, d] #[.int .u8 (a : Nat), .int .u8 (b : Nat), .int .u8 (c : Nat), .int .u8 (d : Nat)] 4 (fun y hy => by simp at hy; omega) rfl rfl (by omega)) (by simp; omega) (Nat.le_trans hbase hbl.size)).mono fun e w' h => h.from hbl)
 clear hbl hW ha hb hc hd
 go_enter Tryz.func95, Tryz.ntmps95
 go_wp2_with (go_at_call 63; refine (CA.out).mono ?_; rintro e w1 ⟨F1, rfl, h⟩; have H1 := Go.Lib.hid h; clear h)
 go_ret
 exact ⟨F1, rfl, H1.out⟩
end Go.Proofs.YtlhdjdnflpilbaaGreatDoor.Oct
namespace Go.Proofs.YtlhdjdnflpilbaaGreatDoor.Oct
open Go.RowKit Mem Ahead
theorem put_any (v x : Value) (base : Nat) (l m : List Nat) (F : Nat → Prop) (w : World) (hW : Wr w base v l F) (hx : U8s w x m) (hlen : l.length + m.length ≤ 1000000) (hbase : base ≤ w.heap.size) :
  Calls Tryz.prog 23 #[v, x] w (AddF base v v (l ++ m) F w) := by
 have CA := Go.Lib.hid (add_any v x base l m F w hW hx hlen hbase)
 clear hW hx
 go_enter Tryz.func23, Tryz.ntmps23
 go_wp2_with (go_at_call 63; refine (CA.out).mono ?_; rintro e w1 ⟨F1, rfl, h⟩; have H1 := Go.Lib.hid h; clear h)
 go_ret
 exact ⟨F1, rfl, H1.out⟩
theorem wbytes_any (v : Value) (base : Nat) (l : List Nat) (F : Nat → Prop) (w : World) (hW : Wr w base v l F) (hlen : l.length ≤ 1000000) : Calls Tryz.prog 24 #[v] w (Gives8 l w) := by
 obtain ⟨b, s, rfl, h2, h3, h4, h5, h6, rfl⟩ := hW
 obtain ⟨c0, f0⟩ := cell1 h3
 have CC := Go.Lib.hid (clone_any s l w (U8s.of_own h4 h5) hlen)
 clear h2 h3 h4 h5 h6
 go_enter Tryz.func24, Tryz.ntmps24
 go_wp2_with (go_at_call 64; refine (CC.out).mono ?_; rintro e w1 ⟨A, c, rfl, h⟩; have H1 := Go.Lib.hid h; clear h)
 go_ret
 exact ⟨A, c, rfl, H1.out⟩
theorem two_puts {base : Nat} {v x : Value} {L : List Nat} {F : Nat → Prop} {w w1 w2 : World} (F1 F2 : Nat → Prop) (k1 : Wr w2 base v L F2) (h2 : Only F w w1) (h3 : Grow F F1 w) {l : List Nat} (_h1 : Wr w1 base v l F1) (k2 : Only F1 w1 w2) (k3 : Grow F1 F2 w1) :
  AddF base v x L F w (.returned x) w2 := by
 refine ⟨F2, rfl, k1, ⟨k2.os.trans h2.os, k2.tape.trans h2.tape, k2.output.trans h2.output, Nat.le_trans h2.size k2.size, fun k hk hf => ?_⟩, fun k hk => ?_⟩
 ·refine (k2.block k (Nat.lt_of_lt_of_le hk h2.size) (fun h => ?_)).trans (h2.block k hk hf)
  rcases h3 k h with h | h
  ·exact hf h
  ·omega
 ·rcases k3 k hk with h | h
  ·exact h3 k h
  ·exact .inr (Nat.le_trans h2.size h)
def sizedS (m : List Nat) : List Nat := if m.length ≤ 255 then [lo8 (m.length : Int)] ++ m else []
def longS (m : List Nat) : List Nat := if m.length ≤ 65535 then [lo8 ((m.length : Int) / 256), lo8 (m.length : Int)] ++ m else []
end Go.Proofs.YtlhdjdnflpilbaaGreatDoor.Oct
namespace Go.Proofs.YtlhdjdnflpilbaaGreatDoor.Oct
open Go.RowKit Mem Ahead
theorem wr_zero (w : World) {base : Nat} (hb : base ≤ w.heap.size) : Wr (w.alloc (.cells #[.slice none 0 0] 52)) base (.pointer (some ⟨w.heap.size, 0, none⟩)) [] (fun k => k = w.heap.size) := by
 refine ⟨w.heap.size, .slice none 0 0, rfl, hb, heap_alloc_new _ _, own_nil8 _ _, small_nil, (fun h => by cases h), ?_⟩
 funext k
 simp [Value.ownBlock]
theorem Wr.other {W W' : World} {base : Nat} {v : Value} {l : List Nat} {F G : Nat → Prop} (h : Wr W base v l F) (ho : Only G W W') (hd : ∀ k, F k → ¬ G k) : Wr W' base v l F :=
 h.keep fun k hk => ho.block k (h.lt k hk).2 (hd k hk)
end Go.Proofs.YtlhdjdnflpilbaaGreatDoor.Oct
namespace Go.Proofs.YtlhdjdnflpilbaaGreatDoor.Oct
open Go.RowKit Mem Ahead
theorem big2 (n : Nat) : big n 2 = [n / 256 % 256, n % 256] := by simp [big]
theorem big4 (n : Nat) : big n 4 = [n / 16777216 % 256, n / 65536 % 256, n / 256 % 256, n % 256] := by simp [big]
theorem lo8_nat (n : Nat) : lo8 (n : Int) = n % 256 := by unfold lo8; omega
theorem lo8_div (n d : Nat) : lo8 ((n : Int) / (d : Int)) = n / d % 256 := by
 rw [← Int.natCast_ediv]
 exact lo8_nat _
theorem put4 (n : Nat) : [lo8 (n / 16777216 : Int), lo8 (n / 65536 : Int), lo8 (n / 256 : Int), lo8 n] = big n 4 := by
 rw [big4, lo8_nat]
 have h1 : lo8 (n / 16777216 : Int) = n / 16777216 % 256 := lo8_div n 16777216
 have h2 : lo8 (n / 65536 : Int) = n / 65536 % 256 := lo8_div n 65536
 have h3 : lo8 (n / 256 : Int) = n / 256 % 256 := lo8_div n 256
 rw [h1, h2, h3]
theorem val_big2 {n : Nat} (h : n < 65536) : val (big n 2) = n := by rw [big2]; simp [val]; omega
theorem val_big4 {n : Nat} (h : n < 4294967296) : val (big n 4) = n := by rw [big4]; simp [val]; omega
def ReadF (base n : Nat) (v : Value) (F : Nat → Prop) (B : List Nat) (x : Value) (w : World) (e : Ending) (w' : World) : Prop :=
 e = .returned x ∧ R w' base n v B false F ∧ Only F w w'
end Go.Proofs.YtlhdjdnflpilbaaGreatDoor.Oct
namespace Go.Proofs.YtlhdjdnflpilbaaGreatDoor.Oct
open Go.RowKit Mem Ahead
structure St (base : Nat) (P : Value) (l : List Nat) (F : Nat → Prop) (v : Value) (m : List Nat) (W : World) : Prop where
 wr : Wr W base P l F
 row : W.ownsRow base 5 1 v m.length (cells8 m)
 small : Small m
 apart : ∀ g, v.ownBlock = some g → ¬ F g
section
variable {base : Nat} {P v : Value} {l l' m k : List Nat} {F F' : Nat → Prop} {W W' : World}
theorem St.le (h : St base P l F v m W) : base ≤ W.heap.size := by
 obtain ⟨b, s, _, h2, h3, _⟩ := h.wr
 have := (Array.getElem?_eq_some_iff.1 h3).1
 omega
theorem St.below (h : St base P l F v m W) (hb : Below W.heap.size W W') : St base P l F v m W' :=
 ⟨h.wr.below hb, own_keep h.row hb, h.small, h.apart⟩
theorem St.wrote (h : St base P l F v m W) (hw : Wr W' base P l' F') (ho : Only F W W') (hg : Grow F F' W) : St base P l' F' v m W' :=
 ⟨hw, own_same h.row (fun g e => ho.block g (h.row.lt g e).2 (h.apart g e)), h.small, fun g e hf => by
  have h1 := (h.row.lt g e).2
  exact (hg g hf).elim (h.apart g e) (fun h2 => by omega)⟩
theorem St.only (h : St base P l F v m W) (ho : Only F W W') : Below base W W' := ho.below (fun k hk => (h.wr.lt k hk).1) h.le
theorem St.grown (h : St base P l F v m W) {A : Option Addr} {N c : Nat} (hown : W'.ownsRow base 5 1 (.slice A N c) N (cells8 m ++ cells8 k)) (hN : N = (m ++ k).length) (hg : W.grownBy W' v.ownBlock)
  (hat : (Value.slice A N c).ownBlock = v.ownBlock ∨ (Value.slice A N c).ownBlock = some W.heap.size) (hk : Small k) : St base P l F (.slice A N c) (m ++ k) W' := by
 refine ⟨h.wr.keep fun j hj => hg.block j (h.wr.lt j hj).2 (fun e => h.apart j e.symm hj), ?_, h.small.append hk, fun g e hf => ?_⟩
 ·rw [cells8_append, ← hN]; exact hown
 ·rcases hat with h1 | h1
  ·exact h.apart g (h1 ▸ e) hf
  ·rw [e] at h1
   injection h1 with h1
   have := (h.wr.lt g hf).2
   omega
end
def Piece (W : World) (v u : Value) (l : List Nat) : Prop := U8s W u l ∧ ∀ g, u.ownBlock = some g → g < W.heap.size ∧ v.ownBlock ≠ some g
theorem Piece.below {W W' : World} {v u : Value} {l : List Nat} (h : Piece W v u l) (hb : Below W.heap.size W W') : Piece W' v u l :=
 ⟨h.1.keep hb, fun g e => ⟨Nat.lt_of_lt_of_le (h.2 g e).1 hb.size, (h.2 g e).2⟩⟩
theorem Piece.grown {W W' : World} {v v' u : Value} {l : List Nat} (h : Piece W v u l) (hg : W.grownBy W' v.ownBlock) (hat : v'.ownBlock = v.ownBlock ∨ v'.ownBlock = some W.heap.size) : Piece W' v' u l := by
 refine ⟨h.1.part (fun g e => hg.block g (h.2 g e).1 (fun q => (h.2 g e).2 q.symm)) hg.size, fun g e => ⟨Nat.lt_of_lt_of_le (h.2 g e).1 hg.size, fun q => ?_⟩⟩
 rcases hat with h1 | h1
 ·exact (h.2 g e).2 (h1 ▸ q)
 ·rw [q] at h1
  injection h1 with h1
  have := (h.2 g e).1
  omega
theorem Piece.new {base : Nat} {P v : Value} {l m k : List Nat} {F : Nat → Prop} {W W' : World} {A : Option Addr} {n c : Nat} (h : St base P l F v m W) (hown : W'.ownsRow W.heap.size 5 1 (.slice A n c) n (cells8 k)) (hn : n = k.length) (hk : Small k) : Piece W' v (.slice A n c) k := by
 subst hn
 exact ⟨U8s.of_own hown hk, fun g e => ⟨(hown.lt g e).2, fun q => by have h1 := (hown.lt g e).1; have h2 := (h.row.lt g q).2; omega⟩⟩
end Go.Proofs.YtlhdjdnflpilbaaGreatDoor.Oct
namespace Go.Proofs.YtlhdjdnflpilbaaGreatDoor.Att
open Go.RowKit Mem Oct
structure Wst (base : Nat) (v : Value) (F0 : Nat → Prop) (s : World) (l : List Nat) (F : Nat → Prop) (W : World) : Prop where
 wr : Wr W base v l F
 on : Only F0 s W
 gr : Grow F0 F s
section
variable {base : Nat} {v x : Value} {F0 F : Nat → Prop} {s W W2 : World} {l l2 : List Nat} {e : Ending}
theorem Wst.new (h : Wr s base v l F) : Wst base v F s l F s := ⟨h, Only.refl _ _, fun _ h => .inl h⟩
theorem Wst.below (h : Wst base v F0 s l F W) (hb : Below W.heap.size W W2) : Wst base v F0 s l F W2 :=
 ⟨h.wr.below hb, h.on.trans (Only.of hb), h.gr⟩
theorem Wst.add (h : Wst base v F0 s l F W) (k : AddF base v x l2 F W e W2) : ∃ F2, e = .returned x ∧ Wst base v F0 s l2 F2 W2 := by
 obtain ⟨F2, h1, h2, h3, h4⟩ := k
 have h5 := two_puts F F2 h2 h.on h.gr h.wr h3 h4 (x := x)
 obtain ⟨F3, e3, k1, k2, k3⟩ := h5
 exact ⟨F3, h1, k1, k2, k3⟩
theorem Wst.size (h : Wst base v F0 s l F W) : s.heap.size ≤ W.heap.size := h.on.size
theorem Wst.then_ {F2 : Nat → Prop} (h : Wst base v F0 s l F W) (k : Wst base v F W l2 F2 W2) : Wst base v F0 s l2 F2 W2 := by
 have h5 := two_puts F F2 k.wr h.on h.gr h.wr k.on k.gr (x := v)
 obtain ⟨F3, e3, k1, k2, k3⟩ := h5
 exact ⟨k.wr, k2, fun j hj => by
  rcases k.gr j hj with q | q
  ·exact h.gr j q
  ·exact .inr (Nat.le_trans h.size q)⟩
end
theorem Wst.only {base : Nat} {v : Value} {F0 F : Nat → Prop} {s W W2 : World} {l : List Nat} (h : Wst base v F0 s l F W) (ho : Only F W W2) : Only F0 s W2 :=
 ⟨ho.os.trans h.on.os, ho.tape.trans h.on.tape, ho.output.trans h.on.output, Nat.le_trans h.on.size ho.size, fun k hk hf => (ho.block k (Nat.lt_of_lt_of_le hk h.on.size) (fun q => (h.gr k q).elim hf (fun r => by omega))).trans (h.on.block k hk hf)⟩
theorem wr_small {W : World} {base : Nat} {v : Value} {l : List Nat} {F : Nat → Prop} (h : Wr W base v l F) : Small l := let ⟨_, _, _, _, _, _, h5, _⟩ := h; h5
set_option maxHeartbeats 1000000 in
theorem sizedO_any (v : Value) (A : Option Addr) (c : Nat) (base : Nat) (l m : List Nat) (F : Nat → Prop) (w : World) (hW : Wr w base v l F) (hx : ∀ W, Only F w W → U8s W (.slice A m.length c) m) (hlen : l.length + m.length ≤ 800000) (hbase : base ≤ w.heap.size) :
  Calls Tryz.prog 96 #[v, .slice A m.length c] w (AddF base v (.bool (decide (m.length ≤ 255))) (l ++ sizedS m) F w) := by
 have hW0 := hW
 obtain ⟨b, s, hv, -⟩ := hW0
 have HW := Go.Lib.hid hW
 by_cases hm : m.length ≤ 255
 ·have z1 : (m.length : Int) ≤ 255 := by omega
  have e1 : decide (m.length ≤ 255) = true := decide_eq_true hm
  have e2 : l ++ sizedS m = (l ++ [lo8 (m.length : Int)]) ++ m := by unfold sizedS; rw [if_pos hm, List.append_assoc]
  rw [e1, e2]
  have CU := Go.Lib.hid (w8_put v base l F (m.length : Int) w hW (by omega) hbase)
  have CP := Go.Lib.hid (fun F1 W (h1 : Wr W base v (l ++ [lo8 (m.length : Int)]) F1) (h2 : U8s W (.slice A m.length c) m) (h3 : base ≤ W.heap.size) => put_any v (.slice A m.length c) base (l ++ [lo8 (m.length : Int)]) m F1 W h1 h2 (by simp; omega) h3)
  have HX := Go.Lib.hid hx
  have HB := Go.Lib.hid hbase
  clear hx hW e1 e2
  generalize [lo8 (m.length : Int)] = H at CU CP ⊢
  subst hv
  go_enter Tryz.func96, Tryz.ntmps96
  go_wp2_with (first
   | (go_at_call 56; refine (CU.out).mono ?_; rintro e w1 ⟨F1, rfl, h1, h2, h3⟩; have H1 := Go.Lib.hid h1; have H2 := Go.Lib.hid h2; have H3 := Go.Lib.hid h3; clear h1 h2 h3)
   | (go_at_call 23; have k1 := HX.out _ H2.out; have k2 := H1.out; have k3 := Nat.le_trans HB.out H2.out.size; refine (CP.out _ _ k2 k1 k3).mono ?_; clear k1 k2 k3; rintro e w2 ⟨F2, rfl, h1, h2, h3⟩; have K1 := Go.Lib.hid h1; have K2 := Go.Lib.hid h2; have K3 := Go.Lib.hid h3; clear h1 h2 h3))
  go_ret
  exact two_puts F1 F2 K1.out H2.out H3.out H1.out K2.out K3.out
 ·have z1 : (m.length : Int) > 255 := by omega
  have e1 : decide (m.length ≤ 255) = false := decide_eq_false hm
  have e2 : l ++ sizedS m = l := by unfold sizedS; rw [if_neg hm, List.append_nil]
  rw [e1, e2]
  clear hx hW e1 e2
  subst hv
  go_enter Tryz.func96, Tryz.ntmps96
  go_wp2
  go_ret
  exact ⟨F, rfl, HW.out, Only.refl _ _, fun k hk => .inl hk⟩
set_option maxHeartbeats 1000000 in
theorem longO_any (v : Value) (A : Option Addr) (c : Nat) (base : Nat) (l m : List Nat) (F : Nat → Prop) (w : World) (hW : Wr w base v l F) (hx : ∀ W, Only F w W → U8s W (.slice A m.length c) m) (hlen : l.length + m.length ≤ 800000) (hbase : base ≤ w.heap.size) :
  Calls Tryz.prog 22 #[v, .slice A m.length c] w (AddF base v (.bool (decide (m.length ≤ 65535))) (l ++ longS m) F w) := by
 have hW0 := hW
 obtain ⟨b, s, hv, -⟩ := hW0
 have HW := Go.Lib.hid hW
 by_cases hm : m.length ≤ 65535
 ·have z1 : (m.length : Int) ≤ 65535 := by omega
  have e1 : decide (m.length ≤ 65535) = true := decide_eq_true hm
  have e2 : l ++ longS m = (l ++ [lo8 ((m.length : Int) / 256), lo8 (m.length : Int)]) ++ m := by unfold longS; rw [if_pos hm, List.append_assoc]
  rw [e1, e2]
  have CU := Go.Lib.hid (w16_put v base l F (m.length : Int) w hW (by omega) hbase)
  have CP := Go.Lib.hid (fun F1 W (h1 : Wr W base v (l ++ [lo8 ((m.length : Int) / 256), lo8 (m.length : Int)]) F1) (h2 : U8s W (.slice A m.length c) m) (h3 : base ≤ W.heap.size) => put_any v (.slice A m.length c) base (l ++ [lo8 ((m.length : Int) / 256), lo8 (m.length : Int)]) m F1 W h1 h2 (by simp; omega) h3)
  have HX := Go.Lib.hid hx
  have HB := Go.Lib.hid hbase
  clear hx hW e1 e2
  generalize [lo8 ((m.length : Int) / 256), lo8 (m.length : Int)] = H at CU CP ⊢
  subst hv
  go_enter Tryz.func22, Tryz.ntmps22
  go_wp2_with (first
   | (go_at_call 62; refine (CU.out).mono ?_; rintro e w1 ⟨F1, rfl, h1, h2, h3⟩; have H1 := Go.Lib.hid h1; have H2 := Go.Lib.hid h2; have H3 := Go.Lib.hid h3; clear h1 h2 h3)
   | (go_at_call 23; have k1 := HX.out _ H2.out; have k2 := H1.out; have k3 := Nat.le_trans HB.out H2.out.size; refine (CP.out _ _ k2 k1 k3).mono ?_; clear k1 k2 k3; rintro e w2 ⟨F2, rfl, h1, h2, h3⟩; have K1 := Go.Lib.hid h1; have K2 := Go.Lib.hid h2; have K3 := Go.Lib.hid h3; clear h1 h2 h3))
  go_ret
  exact two_puts F1 F2 K1.out H2.out H3.out H1.out K2.out K3.out
 ·have z1 : (m.length : Int) > 65535 := by omega
  have e1 : decide (m.length ≤ 65535) = false := decide_eq_false hm
  have e2 : l ++ longS m = l := by unfold longS; rw [if_neg hm, List.append_nil]
  rw [e1, e2]
  clear hx hW e1 e2
  subst hv
  go_enter Tryz.func22, Tryz.ntmps22
  go_wp2
  go_ret
  exact ⟨F, rfl, HW.out, Only.refl _ _, fun k hk => .inl hk⟩
end Go.Proofs.YtlhdjdnflpilbaaGreatDoor.Att
