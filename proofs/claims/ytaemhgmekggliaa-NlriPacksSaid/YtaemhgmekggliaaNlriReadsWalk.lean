/- NlriReads: the law's walk, over what the program's Decode gives. -/
import Derived.Test.YtaemhgmekggliaaNlriDec
namespace Go.Proofs.Ytaemhgmekggliaa.PR
open Go.RowKit Mem Pfx Oct

/-- What the program's Decode tells. -/
def DecP (b : List Nat) (w : World) (e : Ending) (w' : World) : Prop :=
  (dec val b = none ∧ ∃ A c, e = .returned (.tuple #[.slice A 0 c, .int .i64 2]) ∧ Below w.heap.size w w') ∨
  ∃ L A c, dec val b = some L ∧ e = .returned (.tuple #[.slice A L.length c, .int .i64 0]) ∧ Pfxs w' (.slice A L.length c) L ∧ Below w.heap.size w w'
set_option maxRecDepth 100000 in
set_option maxHeartbeats 4000000 in
theorem reads_of (v : Value) (b0 : List Nat) (w : World) (hv : U8s w v b0)
    (CD : ∀ (v : Value) (b : List Nat) (W : World), U8s W v b → b.length ≤ 200 → Calls Try.prog 12 #[v] W (DecP b W))
    (CL : ∀ W, Calls Try.prog 11 #[] W (Tells (.bool true) W)) :
    Calls Try.prog 4 #[v] w (Tells (.bool true) w) := by
  have hls : Small (b0.take 200) := hv.2.take 200
  have hl2 : (b0.take 200).length ≤ 200 := by rw [List.length_take]; omega
  have C1 := Go.Lib.hid (show Calls Try.prog 15 #[v, .int .i64 200] w (Gives8 (b0.take 200) w) from bytes_any v b0 200 w hv (by decide))
  obtain ⟨L0, hL0⟩ : ∃ L0, L0 = b0.take 200 := ⟨_, rfl⟩
  rw [← hL0] at hls hl2 C1
  have C2 := Go.Lib.hid (fun (v : Value) (W : World) (h : U8s W v L0) => show Calls Try.prog 15 #[v, .int .i64 200] W (Gives8 L0 W) from by
    have h3 := bytes_any v L0 200 W h (by decide)
    rw [List.take_of_length_le hl2] at h3
    exact h3)
  have HLS := Go.Lib.hid hls
  have C5 := Go.Lib.hid (fun v W h => refDecode_any v L0 W h (Nat.le_trans hl2 (by decide)))
  have C7 := Go.Lib.hid same_yes
  have CLH := Go.Lib.hid CL
  have CDH := Go.Lib.hid CD
  have HL2 := Go.Lib.hid hl2
  clear hL0 hv hls hl2 CD CL
  cases hd : dec val L0 with
  | none =>
    have C4 := Go.Lib.hid (fun v W h => show Calls Try.prog 12 #[v] W (fun e w' => ∃ A c, e = .returned (.tuple #[.slice A 0 c, .int .i64 2]) ∧ Below W.heap.size W w') from (CDH.out v L0 W h HL2.out).mono fun e w' hh => by
      rcases hh with ⟨_, hh⟩ | ⟨L, A, c, h1, _⟩
      · exact hh
      · rw [hd] at h1; cases h1)
    have C6 := Go.Lib.hid (fun v W h => show Calls Try.prog 16 #[v] W (fun e w' => e = .returned (.tuple #[.slice none 0 0, .bool false]) ∧ Below W.heap.size W w') from (C5.out v W h).mono fun e w' hh => by
      rcases hh with ⟨_, h1, h2⟩ | ⟨L, A, c, h1, _⟩
      · exact ⟨h1, h2⟩
      · rw [hd] at h1; cases h1)
    clear hd C5 CDH
    go_enter Try.func4, Try.ntmps4
    go_wp2_with (first
      | (go_at_call 15; have h := O1.out; refine (C2.out _ _ (U8s.of_own h HLS.out)).mono ?_; rintro e w2 ⟨A2, c2, rfl, ho, hb⟩; have O2 := Go.Lib.hid ho; have B2 := Go.Lib.hid (B1.out.trans (hb.mono B1.out.size)); have K2 := Go.Lib.hid ((U8s.of_own h HLS.out).keep hb); clear ho hb h O1)
      | (go_at_call 15; refine C1.out.mono ?_; rintro e w1 ⟨A1, c1, rfl, ho, hb⟩; have O1 := Go.Lib.hid ho; have B1 := Go.Lib.hid hb; clear ho hb)
      | (go_at_call 12; have h := O2.out; refine (C4.out _ _ (U8s.of_own h HLS.out)).mono ?_; rintro e w3 ⟨A3, c3, rfl, hb⟩; have B3 := Go.Lib.hid (B2.out.trans (hb.mono B2.out.size)); have K3 := Go.Lib.hid (K2.out.keep hb); clear hb h O2)
      | (go_at_call 16; have h := K3.out; refine (C6.out _ _ h).mono ?_; rintro e w4 ⟨rfl, hb⟩; have B4 := Go.Lib.hid (B3.out.trans (hb.mono B3.out.size)); clear hb h)
      | (go_at_call 11; refine (CLH.out _).mono ?_; rintro e w5 ⟨rfl, hb⟩; have B5 := Go.Lib.hid (B4.out.trans (hb.mono B4.out.size)); clear hb))
    go_ret
    exact ⟨rfl, B5.out⟩
  | some L =>
    have C4 := Go.Lib.hid (fun v W h => show Calls Try.prog 12 #[v] W (fun e w' => ∃ A c, e = .returned (.tuple #[.slice A L.length c, .int .i64 0]) ∧ Pfxs w' (.slice A L.length c) L ∧ Below W.heap.size W w') from (CDH.out v L0 W h HL2.out).mono fun e w' hh => by
      rcases hh with ⟨h1, _⟩ | ⟨L', A, c, h1, h2, h3, h4⟩
      · rw [hd] at h1; cases h1
      · rw [hd] at h1
        injection h1 with h1
        subst h1
        exact ⟨A, c, h2, h3, h4⟩)
    have C6 := Go.Lib.hid (fun v W h => show Calls Try.prog 16 #[v] W (fun e w' => ∃ A c, e = .returned (.tuple #[.slice A L.length c, .bool true]) ∧ Pfxs w' (.slice A L.length c) L ∧ Below W.heap.size W w') from (C5.out v W h).mono fun e w' hh => by
      rcases hh with ⟨h1, _⟩ | ⟨L', A, c, h1, h2, h3, h4, h5⟩
      · rw [hd] at h1; cases h1
      · rw [hd] at h1
        injection h1 with h1
        subst h1
        exact ⟨A, c, h2, Pfxs.of_own h3 h4, h5⟩)
    clear hd C5 CDH
    go_enter Try.func4, Try.ntmps4
    go_wp2_with (first
      | (go_at_call 15; have h := O1.out; refine (C2.out _ _ (U8s.of_own h HLS.out)).mono ?_; rintro e w2 ⟨A2, c2, rfl, ho, hb⟩; have O2 := Go.Lib.hid ho; have B2 := Go.Lib.hid (B1.out.trans (hb.mono B1.out.size)); have K2 := Go.Lib.hid ((U8s.of_own h HLS.out).keep hb); clear ho hb h O1)
      | (go_at_call 15; refine C1.out.mono ?_; rintro e w1 ⟨A1, c1, rfl, ho, hb⟩; have O1 := Go.Lib.hid ho; have B1 := Go.Lib.hid hb; clear ho hb)
      | (go_at_call 12; have h := O2.out; refine (C4.out _ _ (U8s.of_own h HLS.out)).mono ?_; rintro e w3 ⟨A3, c3, rfl, hp, hb⟩; have B3 := Go.Lib.hid (B2.out.trans (hb.mono B2.out.size)); have K3 := Go.Lib.hid (K2.out.keep hb); have P3 := Go.Lib.hid hp; clear hb h hp O2)
      | (go_at_call 16; have h := K3.out; refine (C6.out _ _ h).mono ?_; rintro e w4 ⟨A4, c4, rfl, hp, hb⟩; have B4 := Go.Lib.hid (B3.out.trans (hb.mono B3.out.size)); have P4 := Go.Lib.hid (P3.out.keep hb); have Q4 := Go.Lib.hid hp; clear hb h hp)
      | (go_at_call 14; have h1 := P4.out; have h2 := Q4.out; refine (C7.out _ _ _ _ h1 h2).mono ?_; rintro e w5 ⟨rfl, hb⟩; have B5 := Go.Lib.hid (B4.out.trans (hb.mono B4.out.size)); clear hb h1 h2)
      | (go_at_call 11; refine (CLH.out _).mono ?_; rintro e w6 ⟨rfl, hb⟩; have B6 := Go.Lib.hid (B5.out.trans (hb.mono B5.out.size)); clear hb))
    go_ret
    exact ⟨rfl, B6.out⟩
end Go.Proofs.Ytaemhgmekggliaa.PR
