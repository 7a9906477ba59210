/- AttrPaths: the law's walk. -/
import Derived.Test.YtanmepgplpijkaaDoorG45
namespace Go.Proofs.YtanmepgplpijkaaDoor.Att
open Go.RowKit Mem Segm Oct Seg
theorem same_yes (va vb : Value) (p : List Piece) (w : World) (ha : Segs w va p) (hb : Segs w vb p) : Calls Tryd.prog 26 #[va, vb] w (Tells (.bool true) w) := by
  have h := Seg.same_any va vb p p w ha hb
  simpa using h
set_option maxRecDepth 100000 in
set_option maxHeartbeats 4000000 in
theorem paths_walk (v : Value) (b0 : List Nat) (w : World) (hv : U8s w v b0) (hS : Shp w) :
    Calls Tryd.prog 5 #[v] w (Tells (.bool true) w) := by
  have hls : Small (b0.take 1500) := hv.2.take 1500
  have hl2 : (b0.take 1500).length ≤ 1500 := by rw [List.length_take]; omega
  have C1 := Go.Lib.hid (show Calls Tryd.prog 21 #[v, .int .i64 1500] w (Gives8 (b0.take 1500) w) from bytes_any v b0 1500 w hv (by decide))
  obtain ⟨L0, hL0⟩ : ∃ L0, L0 = b0.take 1500 := ⟨_, rfl⟩
  rw [← hL0] at hls hl2 C1
  have C2 := Go.Lib.hid (fun (v : Value) (W : World) (h : U8s W v L0) => show Calls Tryd.prog 21 #[v, .int .i64 1500] W (Gives8 L0 W) from by
    have h3 := bytes_any v L0 1500 W h (by decide)
    rw [List.take_of_length_le hl2] at h3
    exact h3)
  have HLS := Go.Lib.hid hls
  have CP := Go.Lib.hid (fun v W (h : U8s W v L0) => path_any v L0 W h (by omega))
  have CR := Go.Lib.hid (fun v W (h : U8s W v L0) => refPath_any v L0 W h (by omega))
  have CLV := Go.Lib.hid (fun W (h : Below w.heap.size w W) => lives8_any W (hS.keep h))
  have CS := Go.Lib.hid same_yes
  clear hL0 hv hls hl2 hS
  unfold PathF at CP CR
  cases hd : pathIs L0 with
  | none =>
    rw [hd] at CP CR
    clear hd
    have HN := Go.Lib.hid (fun (W : World) => show Segs W (.slice none 0 0) [] from ⟨[], Row.nil W 2, Nums32.nil W⟩)
    go_enter Tryd.func5, Tryd.ntmps5
    go_wp2_with (first
      | (go_at_call 21; have h := O1.out; refine (C2.out _ _ (U8s.of_own h HLS.out)).mono ?_; rintro e w2 ⟨A2, c2, rfl, ho, hb⟩; have O2 := Go.Lib.hid (U8s.of_own ho HLS.out); have B2 := Go.Lib.hid (B1.out.trans (hb.mono B1.out.size)); have K2 := Go.Lib.hid ((U8s.of_own h HLS.out).keep hb); clear ho hb h O1)
      | (go_at_call 21; refine C1.out.mono ?_; rintro e w1 ⟨A1, c1, rfl, ho, hb⟩; have O1 := Go.Lib.hid ho; have B1 := Go.Lib.hid hb; clear ho hb)
      | (go_at_call 24; have h := O2.out; refine (CP.out _ _ h).mono ?_; rintro e w3 ⟨hb, rfl⟩; have B3 := Go.Lib.hid (B2.out.trans (hb.mono B2.out.size)); have K3 := Go.Lib.hid (K2.out.keep hb); clear hb h O2)
      | (go_at_call 25; have h := K3.out; refine (CR.out _ _ h).mono ?_; rintro e w4 ⟨hb, rfl⟩; have B4 := Go.Lib.hid (B3.out.trans (hb.mono B3.out.size)); clear hb h)
      | (go_at_call 26; refine (CS.out _ _ [] _ (HN.out _) (HN.out _)).mono ?_; rintro e w5 ⟨rfl, hb⟩; have B5 := Go.Lib.hid (B4.out.trans (hb.mono B4.out.size)); clear hb)
      | (go_at_call 20; refine (CLV.out _ B5.out).mono ?_; rintro e w6 ⟨rfl, hb⟩; have B6 := Go.Lib.hid (B5.out.trans (hb.mono B5.out.size)); clear hb))
    go_ret
    exact ⟨rfl, B6.out⟩
  | some p =>
    rw [hd] at CP CR
    clear hd
    go_enter Tryd.func5, Tryd.ntmps5
    go_wp2_with (first
      | (go_at_call 21; have h := O1.out; refine (C2.out _ _ (U8s.of_own h HLS.out)).mono ?_; rintro e w2 ⟨A2, c2, rfl, ho, hb⟩; have O2 := Go.Lib.hid (U8s.of_own ho HLS.out); have B2 := Go.Lib.hid (B1.out.trans (hb.mono B1.out.size)); have K2 := Go.Lib.hid ((U8s.of_own h HLS.out).keep hb); clear ho hb h O1)
      | (go_at_call 21; refine C1.out.mono ?_; rintro e w1 ⟨A1, c1, rfl, ho, hb⟩; have O1 := Go.Lib.hid ho; have B1 := Go.Lib.hid hb; clear ho hb)
      | (go_at_call 24; have h := O2.out; refine (CP.out _ _ h).mono ?_; rintro e w3 ⟨hb, vl, rfl, hq⟩; obtain ⟨aq, cq, rfl⟩ := hq.form; have Q3 := Go.Lib.hid hq.segs; have B3 := Go.Lib.hid (B2.out.trans (hb.mono B2.out.size)); have K3 := Go.Lib.hid (K2.out.keep hb); clear hb h hq O2)
      | (go_at_call 25; have h := K3.out; refine (CR.out _ _ h).mono ?_; rintro e w4 ⟨hb, vr, rfl, hq⟩; obtain ⟨ar, cr, rfl⟩ := hq.form; have Q4 := Go.Lib.hid (Q3.out.keep hb); have R4 := Go.Lib.hid hq.segs; have B4 := Go.Lib.hid (B3.out.trans (hb.mono B3.out.size)); clear hb h hq)
      | (go_at_call 26; refine (CS.out _ _ p _ Q4.out R4.out).mono ?_; rintro e w5 ⟨rfl, hb⟩; have B5 := Go.Lib.hid (B4.out.trans (hb.mono B4.out.size)); clear hb)
      | (go_at_call 20; refine (CLV.out _ B5.out).mono ?_; rintro e w6 ⟨rfl, hb⟩; have B6 := Go.Lib.hid (B5.out.trans (hb.mono B5.out.size)); clear hb))
    go_ret
    exact ⟨rfl, B6.out⟩
end Go.Proofs.YtanmepgplpijkaaDoor.Att
