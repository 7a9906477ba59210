/- FrameWraps' walk, out of what Wrap gives. -/
import Derived.Test.YtgeekckoepnccaaFrmWrap
import Derived.Test.YtgeekckoepnccaaOctMake
import Derived.Test.YtgeekckoepnccaaTakeKit
import Derived.Deep.RegionHeld3
import Derived.Deep.DeepCutAuto
namespace Go.Proofs.Ytgeekckoepnccaa.Frm
open Go.RowKit Mem Oct
open Go.Lib (hid)

set_option maxRecDepth 100000 in
set_option maxHeartbeats 4000000 in
theorem wraps_of (hW : ∀ k l, l.length ≤ 5000 → ∃ EB er, WrapW k l EB er ∧ ∀ v W, U8s W v l → Calls Try.prog 18 #[.int .i64 k, v] W (WrapF EB er W)) (hLV : ∀ W, Calls Try.prog 16 #[] W (Tells (.bool true) W)) (k : Int) (v : Value) (b0 : List Nat) (u : Nat) (w : World) (hv : U8s w v b0) :
    Calls Try.prog 5 #[.int .i64 k, v, .int .u16 u] w (Tells (.bool true) w) := by
  have hls : Small (b0.take 300) := hv.2.take 300
  have hl2 : (b0.take 300).length ≤ 300 := by rw [List.length_take]; omega
  have C1 := hid (show Calls Try.prog 8 #[v, .int .i64 300] w (Gives8 (b0.take 300) w) from bytes_any v b0 300 w hv (by decide))
  clear hv
  generalize b0.take 300 = L0 at hls hl2 C1
  have HLS := hid hls
  have HLL := hid hl2
  have HW := hid hW
  have CL := hid hLV
  obtain ⟨i0, E0⟩ := elem8
  clear hls hl2 hW hLV
  go_enter Try.func5, Try.ntmps5
  go_upto_region 2 with (go_at_call 8; refine C1.out.mono ?_; rintro e w1 ⟨A1, c1, rfl, ho, hb⟩; have V1 := hid (U8s.of_own ho HLS.out); have B1 := hid hb; clear ho hb)
  go_cut [16] (fun s16 wx => s16 = .bool (decide (4070 < u ∧ u < 4085)) ∧ wx = w1)
  case first =>
    by_cases h : 4070 < u
    · have z1 : (u : Int) > 4070 := by omega
      go_wp2
      go_meet
      exact ⟨congrArg Value.bool (decide_eq_decide.2 (by omega)), rfl⟩
    · have z1 : (u : Int) ≤ 4070 := by omega
      go_wp2
      go_meet
      exact ⟨congrArg Value.bool (decide_eq_false (show ¬ (4070 < u ∧ u < 4085) by omega)).symm, rfl⟩
  case rest =>
  obtain ⟨rfl, rfl⟩ := hcut
  rename_i HKK
  refine HKK _ _ ?_
  go_cut [1] (fun s1 wx => ∃ (l : List Nat) (A : Option Addr) (c : Nat), s1 = .slice A l.length c ∧ Hid (l.length ≤ 4084) ∧ Hid (U8s wx (.slice A l.length c) l ∧ Below w.heap.size w wx))
  case first =>
    by_cases h : 4070 < u ∧ u < 4085
    case neg =>
      rw [decide_eq_false h]
      go_wp2
      go_meet
      exact ⟨L0, A1, c1, rfl, hid (Nat.le_trans HLL.out (by decide)), hid ⟨V1.out, B1.out⟩⟩
    rw [decide_eq_true h]
    have wu : IntKind.i64.wrap (u : Int) = (u : Int) := IntWalk.i64_in _ (by omega)
    have mk := make8 u (by omega) wc
    have hlit := lit8 wc (List.replicate u 0) (Array.replicate u (Value.int .u8 0)) u (fun y hy => by rw [(List.mem_replicate.1 hy).2]; decide) (by rw [cells_rep]; simp) List.length_replicate.symm (by omega)
    have hb : Below wc.heap.size wc (wc.alloc (.cells (Array.replicate u (Value.int .u8 0)) 5)) := (Below.refl _ _).alloc (Nat.le_refl _) _
    have HB := hid (B1.out.trans (hb.mono B1.out.size))
    have HV := hid hlit
    have HU := hid h.2
    clear hb hlit h
    go_wp2
    go_meet
    exact ⟨List.replicate u 0, _, u, by rw [List.length_replicate], hid (by rw [List.length_replicate]; have := HU.out; omega), hid ⟨by rw [List.length_replicate]; exact HV.out, HB.out⟩⟩
  case rest =>
  obtain ⟨l, A, c, rfl, HL, HV⟩ := hcut
  generalize wc = wk at HV ⊢
  clear V1 B1 HLS HLL C1
  obtain ⟨EB, er, hEW, hCW⟩ := HW.out k l (Nat.le_trans HL.out (by decide))
  have CW := hid hCW
  have HEW := hid hEW
  have B0 := hid HV.out.2
  have hal : Below wk.heap.size wk (wk.alloc (.cells #[] 5)) := (Below.refl _ _).alloc (Nat.le_refl _) _
  have HA := hid hal
  have O := hid (show (wk.alloc (.cells #[] 5)).ownsRow wk.heap.size 5 1 (.slice (some ⟨wk.heap.size, 0, none⟩) 0 0) 0 (cells8 []) from own_blk (Nat.le_refl _) (heap_alloc_new _ _))
  have VA := hid (HV.out.1.keep hal)
  clear hal hCW hEW HW
  unfold WrapF at CW
  go_upto_region 5 with (first
    | (at_builtin; refine wpList_append_row rfl (.tmp 22) (.tmp 23) rfl E0 wk.heap.size _ 0 _ rfl O.out _ l.length (cells8 l) rfl VA.out.1 (ones8 _) (by have := HL.out; unfold maxLen; omega) (by have := HL.out; omega) HA.out.size l.length (Nat.zero_add _) ?_; intro A3 c3 x3 hown hg hat hb; have V3 := hid (U8s.of_own (l := l) hown VA.out.2); have hb3 := HA.out.trans hb; have B3 := hid (B0.out.trans (hb3.mono B0.out.size)); have W3 := hid (HV.out.1.keep hb3); clear hown hg hat hb hb3)
    | (go_at_call 18; refine (CW.out _ _ V3.out).mono ?_; rintro e x4 ⟨A4, c4, rfl, hu, hb⟩; have U4 := hid hu; have B4 := hid (B3.out.trans (hb.mono B3.out.size)); have W4 := hid (W3.out.keep hb); clear hu hb V3 W3 B3))
  clear O VA HA
  rcases HEW.out with ⟨hk, rfl, rfl⟩ | ⟨hk, hlen, rfl, rfl⟩ | ⟨hk, hlen, hE, rfl⟩
  · dsimp only [List.length_nil]
    rcases hk with hk | hk
    · have z : k < 1 := hk
      go_wp2_with (go_at_call 16; refine (CL.out _).mono ?_; rintro e z3 ⟨rfl, hb⟩; have B7 := hid (B4.out.trans (hb.mono B4.out.size)); clear hb)
      go_ret
      exact ⟨rfl, B7.out⟩
    · have z : 1 ≤ k := by omega
      have z2 : 4 < k := hk
      go_wp2_with (go_at_call 16; refine (CL.out _).mono ?_; rintro e z3 ⟨rfl, hb⟩; have B7 := hid (B4.out.trans (hb.mono B4.out.size)); clear hb)
      go_ret
      exact ⟨rfl, B7.out⟩
  · dsimp only [List.length_nil]
    have z : 1 ≤ k := hk.1
    have z2 : k ≤ 4 := hk.2
    have z3 : 4077 < (l.length : Int) := by omega
    clear hk hlen
    go_wp2_with (go_at_call 16; refine (CL.out _).mono ?_; rintro e z3 ⟨rfl, hb⟩; have B7 := hid (B4.out.trans (hb.mono B4.out.size)); clear hb)
    go_ret
    exact ⟨rfl, B7.out⟩
  · have z : 1 ≤ k := hk.1
    have z2 : k ≤ 4 := hk.2
    have z3 : (l.length : Int) ≤ 4077 := by omega
    have CR := hid (fun v W (h : U8s W v l) => rwrap_any k v l W h (by omega))
    rw [← hE] at CR
    have x1 := txt_same EB
    have ES := hid U4.out.2
    clear hk hlen hE HEW
    go_upto_region 9 with fail
    have hd : Below x4.heap.size x4 x4.drew := (Below.refl _ _).drew
    replace U4 := hid (U4.out.keep hd)
    replace W4 := hid (W4.out.keep hd)
    replace B4 := hid B4.out.drew
    clear hd
    refine wp_region_noPanic ?_
    refine wp_region_held_drew (S := fun w' => (convert 25 9 (.slice A4 EB.length c4)).run Try.prog w' = .ok (.string (txt EB)) w') (by kernel_rfl) (text8 U4.out) (fun h0 => ?_)
    refine Take.tk 0 57 h0 ?_
    refine Take.tk 1 58 h0 ?_
    refine Take.tk 2 59 h0 ?_
    try simp only [Act.put, Take.nm]
    refine Take.tk 3 60 h0 ?_
    refine Take.tk 4 61 h0 ?_
    refine Take.tk 5 62 h0 ?_
    try simp only [Act.put, Take.nm]
    refine Take.tk 6 63 h0 ?_
    try simp only [Act.put, Take.nm]
    refine wpAnyH_ready (rs := [7]) (by kernel_rfl) (by simp) ?_
    refine AllReadyH.cons (o := _) (by rfl) (fun K1 hK => ?_) AllReadyH.nil
    go_simp
    go_at_call 19; refine (CR.out _ _ W4.out).mono ?_; rintro e x5 ⟨A5, c5, rfl, ho, hb⟩; have V5 := hid (U8s.of_own ho ES.out); replace U4 := hid (U4.out.keep hb); replace B4 := hid (B4.out.trans (hb.mono B4.out.size)); clear hb ho
    refine hK.out _ _ (text8 U4.out) (fun h1 => ?_)
    clear hK K1
    try simp only [Act.put, Take.nm]
    refine wpAnyH_ready (rs := [8]) (by kernel_rfl) (by simp) ?_
    refine AllReadyH.cons (o := _) (by rfl) (fun K1 hK => ?_) AllReadyH.nil
    have t5 := text8 V5.out
    go_simp
    refine hK.out _ _ (text8 U4.out) (fun h2 => ?_)
    clear hK K1
    try simp only [Act.put, Take.nm]
    refine Take.tk 9 66 h2 ?_
    refine Take.tk 10 67 h2 ?_
    refine Take.tk 11 68 h2 ?_
    try simp only [Act.put, Take.nm]
    try simp only [Act.put, Take.nm]
    refine wpAnyH_ready (rs := [12]) (by kernel_rfl) (by simp) ?_
    refine AllReadyH.cons (o := _) (by rfl) (fun K1 hK => ?_) AllReadyH.nil
    go_simp
    go_at_call 16; refine (CL.out _).mono ?_; rintro e x6 ⟨rfl, hb⟩; replace U4 := hid (U4.out.keep hb); replace B4 := hid (B4.out.trans (hb.mono B4.out.size)); clear hb
    refine hK.out _ _ (text8 U4.out) (fun h3 => ?_)
    clear hK K1
    try simp only [Act.put, Take.nm]
    refine Take.tk 13 70 h3 ?_
    refine Take.tk 14 6 h3 ?_
    try simp only [Act.put, Take.nm]
    refine wpAnyH_done (by kernel_rfl) ?_ _
    refine NoPanic.normal ?_
    go_wp2
    go_ret
    exact ⟨rfl, B4.out⟩
end Go.Proofs.Ytgeekckoepnccaa.Frm
