/- NoticeReads' walk. -/
import Derived.Test.YtplolahbjebbaaaDoorNtcLives
import Derived.Test.YtplolahbjebbaaaDoorNtcDec
import Derived.IntWalk
import Derived.Deep.RegionHeld3
namespace Go.Proofs.YtplolahbjebbaaaDoor.Ntc
open Go.RowKit Mem Oct Att Pfx
open Go.Lib (hid)

/-- Which notice few bytes are. -/
theorem reads_cases (l : List Nat) (hs : Small l) (hl : l.length ≤ 300) : (l.length < 2 ∧ okN l = false ∧ outN l = noN) ∨ (∃ c d, l = 0 :: c :: d ∧ okN l = false ∧ outN l = noN) ∨ (∃ a c d, l = a :: c :: d ∧ 0 < a ∧ a < 256 ∧ c < 256 ∧ okN l = true ∧ outN l = ⟨(a : Nat), (c : Nat), d⟩) := by
  have ho : okN l = false → outN l = noN := fun h => by unfold outN; rw [h]; rfl
  match l, hs, hl, ho with
  | [], _, _, ho => exact .inl ⟨by decide, ok_nil, ho ok_nil⟩
  | [a], _, _, ho => exact .inl ⟨by simp, ok_one a, ho (ok_one a)⟩
  | a :: c :: d, hs, hl, ho =>
    have ha := hs a (by simp)
    have hc := hs c (by simp)
    simp only [List.length_cons] at hl
    rcases Nat.eq_zero_or_pos a with rfl | h0
    · have e : okN (0 :: c :: d) = false := by rw [ok_two]; exact decide_eq_false (by dsimp only; omega)
      exact .inr (.inl ⟨c, d, rfl, e, ho e⟩)
    · have e : okN (a :: c :: d) = true := by rw [ok_two]; exact decide_eq_true (by dsimp only; omega)
      exact .inr (.inr ⟨a, c, d, rfl, h0, ha, hc, e, by unfold outN; rw [e, if_pos rfl, (read_two a c d).1]⟩)
/-- The first two bytes. -/
theorem at01 {W : World} {A : Option Addr} {n c a b : Nat} {l m : List Nat} (h : U8s W (.slice A n c) l) (hl : l = a :: b :: m) : ∃ k off, A = some ⟨k, off, none⟩ ∧ W.cell? ⟨k, off, none⟩ = some (.int .u8 a) ∧ W.cell? ⟨k, off + 1, none⟩ = some (.int .u8 b) := by
  subst hl
  obtain ⟨k, off, x, rfl, -, hx, -, hc⟩ := h.at_ (k := 0) (by simp)
  obtain ⟨k', off', y, e, -, hy, -, hd⟩ := h.at_ (k := 1) (by simp)
  obtain ⟨rfl, rfl⟩ : k = k' ∧ off = off' := by simpa using e
  obtain rfl : a = x := by simpa using hx
  obtain rfl : b = y := by simpa using hy
  exact ⟨k, off, rfl, hc, hd⟩
set_option maxRecDepth 100000 in
set_option maxHeartbeats 4000000 in
theorem reads_walk (v : Value) (b0 : List Nat) (w : World) (hv : U8s w v b0) : Calls Tryd.prog 4 #[v] w (Tells (.bool true) w) := by
  have hls : Small (b0.take 300) := hv.2.take 300
  have hl2 : (b0.take 300).length ≤ 300 := by rw [List.length_take]; omega
  have C1 := hid (show Calls Tryd.prog 6 #[v, .int .i64 300] w (Gives8 (b0.take 300) w) from bytes_any v b0 300 w hv (by decide))
  clear hv
  generalize b0.take 300 = L0 at hls hl2 C1
  have C2 := hid (fun (v : Value) (W : World) (h : U8s W v L0) => show Calls Tryd.prog 6 #[v, .int .i64 300] W (Gives8 L0 W) from by
    have h3 := bytes_any v L0 300 W h (by decide)
    rw [List.take_of_length_le hl2] at h3
    exact h3)
  have HLS := hid hls
  have CL := hid lives11_any
  have hcs := reads_cases L0 hls hl2
  have CD := hid (fun v W (h : U8s W v L0) => decode_any v L0 W h (by omega))
  unfold DecF at CD
  generalize okN L0 = ok at hcs CD
  have HO : ∀ m, outN L0 = m → Hid (∀ v W, U8s W v L0 → Calls Tryd.prog 14 #[v] W (fun e w' => ∃ A k c, e = .returned (.tuple #[.agg #[.int .i64 m.code, .int .i64 m.sub, .slice A k c], .bool ok]) ∧ Note w' (.agg #[.int .i64 m.code, .int .i64 m.sub, .slice A k c]) m ∧ Below W.heap.size W w')) := fun m hm => hid fun v W h => (CD.out v W h).mono fun e w' ⟨x, h1, h2, h3⟩ => by
    rw [hm] at h2
    have h4 := h2
    obtain ⟨-, -, vd, rfl, hd⟩ := h4
    obtain ⟨A, c, rfl, -, -⟩ := hd.form
    exact ⟨A, _, c, h1, h2, h3⟩
  clear CD
  rcases hcs with ⟨h1, rfl, h3⟩ | ⟨c, d, hL, rfl, h3⟩ | ⟨a, c, d, hL, ha, ha2, hc2, rfl, h3⟩
  · have CD := HO _ h3
    have CT := hid (fun v W (h : Note W v noN) => show Calls Tryd.prog 11 #[v, .agg #[.int .i64 0, .int .i64 0, .slice none 0 0]] W (Tells (.bool true) W) from by
      have h := told_any _ _ _ _ W h (note_zero W)
      rw [sameN_iff.2 rfl] at h
      exact h)
    have z1 : (L0.length : Int) < 2 := by omega
    clear HO h1 h3 hls hl2
    unfold noN at CD
    dsimp only at CD
    go_enter Tryd.func4, Tryd.ntmps4
    go_wp2_with (first
      | (have h := O1.out; go_at_call 6; refine (C2.out _ _ (U8s.of_own h HLS.out)).mono ?_; rintro e w2 ⟨A2, c2, rfl, ho, hb⟩; have O2 := hid (U8s.of_own ho HLS.out); have B2 := hid (B1.out.trans (hb.mono B1.out.size)); clear ho hb h O1)
      | (go_at_call 6; refine C1.out.mono ?_; rintro e w1 ⟨A1, c1, rfl, ho, hb⟩; have O1 := hid ho; have B1 := hid hb; clear ho hb)
      | (go_at_call 14; have h := O2.out; refine (CD.out _ _ h).mono ?_; rintro e w3 ⟨A, k, c, rfl, hN, hb⟩; have B3 := hid (B2.out.trans (hb.mono B2.out.size)); have N3 := hid (hN.keep (ntc_box _ (.int .i64 0) (.int .i64 0) (.slice A k c))); have B4 := hid (B3.out.trans ((ntc_box _ (.int .i64 0) (.int .i64 0) (.slice A k c)).mono B3.out.size)); clear h O2 hN hb)
      | (go_at_call 11; refine (CT.out _ _ N3.out).mono ?_; rintro e w5 ⟨rfl, hb⟩; have B5 := hid (B4.out.trans (hb.mono B4.out.size)); clear hb)
      | (go_at_call 13; refine (CL.out _).mono ?_; rintro e w7 ⟨rfl, hb⟩; have B7 := hid (B5.out.trans (hb.mono B5.out.size)); clear hb))
    go_ret
    exact ⟨rfl, B7.out⟩
  · have CD := HO _ h3
    have CT := hid (fun v W (h : Note W v noN) => show Calls Tryd.prog 11 #[v, .agg #[.int .i64 0, .int .i64 0, .slice none 0 0]] W (Tells (.bool true) W) from by
      have h := told_any _ _ _ _ W h (note_zero W)
      rw [sameN_iff.2 rfl] at h
      exact h)
    have hlen : 2 ≤ L0.length := by rw [hL]; simp
    have HL := hid (And.intro hL hlen)
    have z1 : 2 ≤ (L0.length : Int) := by omega
    have z2 : 0 < (L0.length : Int) := by omega
    clear HO hL hlen h3 hls hl2
    unfold noN at CD
    dsimp only at CD
    go_enter Tryd.func4, Tryd.ntmps4
    go_wp2_with (first
      | (have h := O1.out; go_at_call 6; refine (C2.out _ _ (U8s.of_own h HLS.out)).mono ?_; rintro e w2 ⟨A2, c2, rfl, ho, hb⟩; have O2 := hid (U8s.of_own ho HLS.out); have B2 := hid (B1.out.trans (hb.mono B1.out.size)); have K2 := hid ((U8s.of_own h HLS.out).keep hb); clear ho hb h O1)
      | (go_at_call 6; refine C1.out.mono ?_; rintro e w1 ⟨A1, c1, rfl, ho, hb⟩; have O1 := hid ho; have B1 := hid hb; clear ho hb)
      | (go_at_call 14; go_loud (have h := O2.out; refine (CD.out _ _ h).mono ?_; rintro e w3 ⟨A, k, c, rfl, hN, hb⟩; have B3 := hid (B2.out.trans (hb.mono B2.out.size)); have N3 := hid (hN.keep (ntc_box _ (.int .i64 0) (.int .i64 0) (.slice A k c))); have B4 := hid (B3.out.trans ((ntc_box _ (.int .i64 0) (.int .i64 0) (.slice A k c)).mono B3.out.size)); have K4 := (K2.out.keep hb).keep (ntc_box _ (.int .i64 0) (.int .i64 0) (.slice A k c)); obtain ⟨bk, off, rfl, q0, q1⟩ := at01 K4 HL.out.1; clear h O2 K2 K4 hN hb))
      | (go_at_call 11; refine (CT.out _ _ N3.out).mono ?_; rintro e w5 ⟨rfl, hb⟩; have B5 := hid (B4.out.trans (hb.mono B4.out.size)); clear hb)
      | (go_at_call 13; refine (CL.out _).mono ?_; rintro e w7 ⟨rfl, hb⟩; have B7 := hid (B5.out.trans (hb.mono B5.out.size)); clear hb))
    go_ret
    exact ⟨rfl, B7.out⟩
  · have CD := HO _ h3
    have CT := hid (fun v v2 W (h : Note W v ⟨(a : Nat), (c : Nat), d⟩) (h2 : Note W v2 ⟨(a : Nat), (c : Nat), d⟩) => show Calls Tryd.prog 11 #[v, v2] W (Tells (.bool true) W) from by
      have h := told_any _ _ _ _ W h h2
      rw [sameN_iff.2 rfl] at h
      exact h)
    have hlen : 2 ≤ L0.length := by rw [hL]; simp
    have HL := hid (And.intro hL hlen)
    have z1 : 2 ≤ (L0.length : Int) := by omega
    have z2 : 0 < (L0.length : Int) := by omega
    have z3 : 1 < (L0.length : Int) := by omega
    have y1 : ((a : Int) == 0) = false := by simp; omega
    have WA := hid (nat_wf ha2)
    have WC := hid (nat_wf hc2)
    clear HO hL hlen h3 hls hl2 ha ha2 hc2
    dsimp only at CD
    go_enter Tryd.func4, Tryd.ntmps4
    go_wp2_with (first
      | (have h := O1.out; go_at_call 6; refine (C2.out _ _ (U8s.of_own h HLS.out)).mono ?_; rintro e w2 ⟨A2, c2, rfl, ho, hb⟩; have O2 := hid (U8s.of_own ho HLS.out); have B2 := hid (B1.out.trans (hb.mono B1.out.size)); have K2 := hid ((U8s.of_own h HLS.out).keep hb); clear ho hb h O1)
      | (go_at_call 6; refine C1.out.mono ?_; rintro e w1 ⟨A1, c1, rfl, ho, hb⟩; have O1 := hid ho; have B1 := hid hb; clear ho hb)
      | (go_at_call 14; have h := O2.out; refine (CD.out _ _ h).mono ?_; rintro e w3 ⟨A, k, cc, rfl, hN, hb⟩; have B3 := hid (B2.out.trans (hb.mono B2.out.size)); have N3 := hid (hN.keep (ntc_box _ (.int .i64 (a : Nat)) (.int .i64 (c : Nat)) (.slice A k cc))); have B4 := hid (B3.out.trans ((ntc_box _ (.int .i64 (a : Nat)) (.int .i64 (c : Nat)) (.slice A k cc)).mono B3.out.size)); have K4 := hid ((K2.out.keep hb).keep (ntc_box _ (.int .i64 (a : Nat)) (.int .i64 (c : Nat)) (.slice A k cc))); have X4 := hid (Box3.new w3 24 (.int .i64 (a : Nat)) (.int .i64 (c : Nat)) (.slice A k cc)); obtain ⟨bk, off, rfl, q0, q1⟩ := at01 K4.out HL.out.1; obtain ⟨p0, p1, p2⟩ := X4.out.cells; clear h O2 K2 hN hb))
    have hcap : L0.length ≤ c1 ∧ c1 ≤ 9223372036854775807 := by
      obtain ⟨_, _, e, h1, h2⟩ := K4.out.form
      injection e with _ _ e
      exact ⟨e ▸ h1, e ▸ h2⟩
    have V4 := hid (show U8s (w3.alloc (.cells #[.int .i64 (a : Nat), .int .i64 (c : Nat), .slice A k cc] 24)) (.slice (if c1 = 2 then some ⟨bk, off, none⟩ else (some ⟨bk, off, none⟩ : Option Addr).map (fun x => x.add 2)) (L0.length - 2) (c1 - 2)) d from by
      have h := K4.out.cut (k := 2) HL.out.2
      rw [show L0.drop 2 = d by rw [HL.out.1]; rfl] at h
      exact h)
    have z4 : 2 ≤ (c1 : Int) := by omega
    have z5 : (L0.length : Int) ≤ (c1 : Int) := by omega
    clear K4 p0 p1 p2
    replace q0 := (Below.cell ((Below.refl _ _).drew) (block_lt_of_cell q0)).trans q0
    replace q1 := (Below.cell ((Below.refl _ _).drew) (block_lt_of_cell q1)).trans q1
    obtain ⟨p0, p1, p2⟩ := (X4.out.keep (Below.refl _ _).drew).cells
    generalize w3.alloc (.cells #[.int .i64 (a : Nat), .int .i64 (c : Nat), .slice A k cc] 24) = W4 at N3 B4 X4 V4 p0 p1 p2 q0 q1 ⊢
    replace N3 := hid (N3.out.keep (Below.refl _ _).drew)
    have B5 := hid (B4.out.trans ((Below.refl _ _).drew.mono B4.out.size))
    replace V4 := hid (V4.out.keep (Below.refl _ _).drew)
    have wa : IntKind.i64.wrap (a : Int) = (a : Int) := IntWalk.i64_in _ (by have := WA.out; simp [Lit.wf, IntKind.min, IntKind.max, IntKind.signed, IntKind.bits] at this; omega)
    have wc : IntKind.i64.wrap (c : Int) = (c : Int) := IntWalk.i64_in _ (by have := WC.out; simp [Lit.wf, IntKind.min, IntKind.max, IntKind.signed, IntKind.bits] at this; omega)
    by_cases hc1 : c1 = 2
    focus
      subst hc1
      rw [if_pos rfl, show L0.length - 2 = 0 by omega] at V4
    rotate_left
    focus
      rw [if_neg hc1] at V4
      replace V4 := hid (show U8s W4.drew (.slice (some ⟨bk, off + 2, none⟩) (L0.length - 2) (c1 - 2)) d from V4.out)
    all_goals
      go_region_held3 (fun w' => w'.cell? ⟨w3.heap.size, 0, none⟩ = some (.int .i64 (a : Nat)) ∧ w'.cell? ⟨w3.heap.size, 1, none⟩ = some (.int .i64 (c : Nat)) ∧ w'.cell? ⟨w3.heap.size, 2, none⟩ = some (.slice A k cc) ∧ w'.cell? ⟨bk, off, none⟩ = some (.int .u8 (a : Nat)) ∧ w'.cell? ⟨bk, off + 1, none⟩ = some (.int .u8 (c : Nat))) (exact ⟨by assumption, by assumption, by assumption, by assumption, by assumption⟩) (first
        | (go_at_call 11; refine (CT.out _ _ _ N3.out ⟨WA.out, WC.out, _, rfl, V4.out⟩).mono ?_; rintro e z ⟨rfl, hb⟩; have B6 := hid (B5.out.trans (hb.mono B5.out.size)); replace p0 := keepsT hb p0; replace p1 := keepsT hb p1; replace p2 := keepsT hb p2; replace q0 := keepsT hb q0; replace q1 := keepsT hb q1; clear hb N3 V4)
        | (have h := B6.out; go_at_call 13; refine (CL.out _).mono ?_; rintro e z ⟨rfl, hb⟩; have B7 := hid (h.trans (hb.mono h.size)); replace p0 := keepsT hb p0; replace p1 := keepsT hb p1; replace p2 := keepsT hb p2; replace q0 := keepsT hb q0; replace q1 := keepsT hb q1; clear hb h B6))
      go_wp2
      go_ret
      exact ⟨rfl, B7.out⟩
end Go.Proofs.YtplolahbjebbaaaDoor.Ntc
