/- The reference's Wrap: a message's bytes. -/
import Derived.Test.YtgeekckoepnccaaFrmMem
import Derived.Test.YtgeekckoepnccaaOctBig
import Derived.Test.YtgeekckoepnccaaOctPut
import Derived.IntWalk
namespace Go.Proofs.Ytgeekckoepnccaa.Frm
open Go.RowKit Mem Oct
open Go.Lib (hid)

/-- A message's bytes. -/
def wrapB (k : Int) (l : List Nat) : List Nat := List.replicate 16 255 ++ big (19 + l.length) 2 ++ [lo8 k] ++ l
theorem ff_small (n : Nat) : Small (List.replicate n 255) := fun x hx => by rw [(List.mem_replicate.1 hx).2]; decide
theorem wrapB_small {k : Int} {l : List Nat} (h : Small l) : Small (wrapB k l) := by
  unfold wrapB
  exact (((ff_small 16).append (big_small _ _)).append (fun x hx => by rw [List.mem_singleton.1 hx]; exact lo8_lt _)).append h
theorem wrapB_len (k : Int) (l : List Nat) : (wrapB k l).length = 19 + l.length := by unfold wrapB; simp [big_len]; omega
/-- What Wrap answers: bytes, or why there are none. -/
def WrapW (k : Int) (l : List Nat) (EB : List Nat) (er : Int) : Prop := ((k < 1 ∨ 4 < k) ∧ EB = [] ∧ er = 1) ∨ ((1 ≤ k ∧ k ≤ 4) ∧ 4077 < l.length ∧ EB = [] ∧ er = 6) ∨ ((1 ≤ k ∧ k ≤ 4) ∧ l.length ≤ 4077 ∧ EB = wrapB k l ∧ er = 0)
def WrapF (EB : List Nat) (er : Int) (w : World) (e : Ending) (w' : World) : Prop := ∃ A c, e = .returned (.tuple #[.slice A EB.length c, .int .i64 er]) ∧ U8s w' (.slice A EB.length c) EB ∧ Below w.heap.size w w'
set_option maxRecDepth 100000 in
set_option maxHeartbeats 4000000 in
theorem rwrap_any (k : Int) (v : Value) (l : List Nat) (w : World) (hv : U8s w v l) (hl : l.length ≤ 100000) : Calls Try.prog 19 #[.int .i64 k, v] w (Gives8 (wrapB k l) w) := by
  obtain ⟨A0, c, rfl, hc, hc2⟩ := hv.form
  obtain ⟨i0, E0⟩ := elem8
  have HV := hid hv
  have hbl : Below w.heap.size w (w.alloc (.cells #[] 5)) := (Below.refl _ w).alloc (Nat.le_refl _) _
  have HB0 := hid hbl
  have HO0 := hid (show (w.alloc (.cells #[] 5)).ownsRow w.heap.size 5 1 (.slice (some ⟨w.heap.size, 0, none⟩) 0 0) 0 (cells8 []) from own_blk (Nat.le_refl _) (heap_alloc_new _ _))
  clear hv hbl
  have HE := hid (show (wrapB k l).length = 19 + l.length from wrapB_len k l)
  have HW := hid (show wrapB k l = List.replicate 16 255 ++ big (19 + l.length) 2 ++ [lo8 k] ++ l from rfl)
  generalize wrapB k l = R at HE HW ⊢
  go_enter Try.func19, Try.ntmps19
  go_wp2
  go_loopw [5, 6] (fun v5 v6 wx => ∃ (i : Nat) (A : Option Addr) (cp : Nat), i ≤ 16 ∧ v6 = .int .i64 i ∧ v5 = .slice A i cp ∧ Hid (wx.ownsRow w.heap.size 5 1 (.slice A i cp) i (cells8 (List.replicate i 255))) ∧ Hid (Below w.heap.size w wx)) (fun _ v6 _ => 16 - (intOf v6).toNat)
  case atStart => exact ⟨0, _, 0, Nat.zero_le _, rfl, rfl, HO0, HB0⟩
  case round =>
    obtain ⟨i, A, cp, hi, rfl, rfl, HO, HB⟩ := hrel
    by_cases hlt : i < 16
    · have z1 : (i : Int) < 16 := by omega
      have hal : Below wr.heap.size wr (wr.alloc (.cells #[.int .u8 255] 5)) := (Below.refl _ _).alloc (Nat.le_refl _) _
      have HA := hid hal
      clear hal
      go_wp2_with (at_builtin; refine wpList_append_row rfl (.tmp 12) (.tmp 13) rfl E0 w.heap.size _ i (cells8 (List.replicate i 255)) rfl (own_keep HO.out HA.out) _ 1 [.int .u8 255] rfl (Row.one _ _ _) (fun u hu => by rw [List.mem_singleton.1 hu]; rfl) (by unfold maxLen; omega) (by omega) (Nat.le_trans HB.out.size HA.out.size) (i + 1) rfl ?_; intro A1 c1 w1 hown hg hat hb; have HO1 := hid hown; have HB1 := hid ((HB.out.trans (HA.out.mono HB.out.size)).trans hb); clear hown hg hat hb)
      go_roundw
      case rel => exact ⟨i + 1, A1, c1, hlt, by go_num, rfl, hid (by have h := HO1.out; rw [List.replicate_succ', cells8_append]; exact h), HB1⟩
      case measure => simp [intOf]; omega
    · obtain rfl : i = 16 := by omega
      have hn : ((19 + l.length : Nat) : Int) = 19 + (l.length : Int) := by omega
      have C := hid (fun W => big_any (19 + l.length) 2 W (by omega) (by omega))
      rw [hn] at C
      have wk := wrap_lo8 k
      have wn : IntKind.u64.wrap (19 + (l.length : Int)) = 19 + (l.length : Int) := by rw [← hn]; exact IntWalk.u64_in _ (by omega)
      clear hn
      have HS := hid (big_small (19 + l.length) 2)
      have HBL := hid (big_len (19 + l.length) 2)
      generalize big (19 + l.length) 2 = G at C HS HW HBL
      go_wp2_with (first
        | (go_at_call 30; refine (C.out _).mono ?_; rintro e x ⟨A1, c1, rfl, ho, hb⟩; have G1 := hid (U8s.of_own ho HS.out); have HO1 := hid (own_keep HO.out hb); have HB1 := hid (HB.out.trans (hb.mono HB.out.size)); clear ho hb HO)
        | (have h := G1.out; at_builtin; refine wpList_append_row rfl (.tmp 15) (.tmp 20) rfl E0 w.heap.size _ 16 (cells8 (List.replicate 16 255)) rfl HO1.out _ G.length (cells8 G) rfl h.1 (ones8 _) (by rw [HBL.out]; unfold maxLen; omega) (by rw [HBL.out]; omega) HB1.out.size 18 (by rw [HBL.out]) ?_; intro A2 c2 x2 hown hg hat hb; have hb2 := HB1.out.trans hb; have hal : Below x2.heap.size x2 (x2.alloc (.cells #[.int .u8 (lo8 k)] 5)) := (Below.refl _ _).alloc (Nat.le_refl _) _; have HO2 := hid (own_keep hown hal); have HB2 := hid (hb2.trans (hal.mono hb2.size)); clear hown hg hat hb hb2 hal h G1)
        | (have h := HO2.out; at_builtin; refine wpList_append_row rfl (.tmp 21) (.tmp 24) rfl E0 w.heap.size _ 18 _ rfl h _ 1 [.int .u8 (lo8 k)] rfl (Row.one _ _ _) (fun u hu => by rw [List.mem_singleton.1 hu]; rfl) (by unfold maxLen; omega) (by omega) HB2.out.size 19 rfl ?_; intro A3 c3 x3 hown hg hat hb; have HB3 := hid (HB2.out.trans hb); have HO3 := hid hown; have V3 := hid (HV.out.keep HB3.out); clear hown hg hat hb h HO2)
        | (have h := HO3.out; at_builtin; refine wpList_append_row rfl (.tmp 25) (.tmp 26) rfl E0 w.heap.size _ 19 _ rfl h _ l.length (cells8 l) rfl V3.out.1 (ones8 _) (by unfold maxLen; omega) (by omega) HB3.out.size R.length HE.out.symm ?_; intro A4 c4 x4 hown hg hat hb; have HB4 := hid (HB3.out.trans hb); have HO4 := hid hown; clear hown hg hat hb h HO3))
      go_ret
      refine ⟨A4, c4, rfl, ?_, HB4.out⟩
      have h := HO4.out
      rw [HW.out, cells8_append, cells8_append, cells8_append]
      rw [HW.out] at h
      exact h
end Go.Proofs.Ytgeekckoepnccaa.Frm
