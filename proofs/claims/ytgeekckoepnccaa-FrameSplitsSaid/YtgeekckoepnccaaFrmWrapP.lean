/- The program's Wrap: a message's bytes, or why it has none. -/
import Derived.Test.YtgeekckoepnccaaFrmWrap
import Derived.Test.YtgeekckoepnccaaFrmFun
import Derived.Test.YtgeekckoepnccaaFrmMark
import Derived.Test.YtgeekckoepnccaaOctSized
namespace Go.Proofs.Ytgeekckoepnccaa.Frm
open Go.RowKit Mem Oct Att
open Go.Lib (hid)

theorem big_two (n : Nat) : [lo8 ((n : Int) / 256), lo8 (n : Int)] = big n 2 := by
  have h : big n 2 = [n / 256 % 256, n % 256] := by simp [big]
  rw [h]
  unfold lo8
  congr 1 <;> first | omega | (congr 1; omega)
/-- A writer in the first block behind a world. -/
def WrSt (w : World) (l : List Nat) (W : World) : Prop := ∃ F, Wr W w.heap.size (.pointer (some ⟨w.heap.size, 0, none⟩)) l F ∧ Below w.heap.size w W
section
variable {w W W2 : World} {l l2 : List Nat} {x : Value} {e : Ending}
theorem WrSt.low (h : WrSt w l W) : Below w.heap.size w W := let ⟨_, _, h⟩ := h; h
theorem WrSt.keep (h : WrSt w l W) (hb : Below W.heap.size W W2) : WrSt w l W2 := let ⟨F, h1, h2⟩ := h; ⟨F, h1.below hb, h2.trans (hb.mono h2.size)⟩
theorem WrSt.add {F : Nat → Prop} (h : Wr W w.heap.size (.pointer (some ⟨w.heap.size, 0, none⟩)) l F) (h2 : Below w.heap.size w W) (k : AddF w.heap.size (.pointer (some ⟨w.heap.size, 0, none⟩)) x l2 F W e W2) : e = .returned x ∧ WrSt w l2 W2 := by
  obtain ⟨F2, h3, h4, h5, -⟩ := k
  exact ⟨h3, F2, h4, h2.trans (h5.below (fun k hk => (h.lt k hk).1) h2.size)⟩
end
theorem wr_start (w : World) : WrSt w [] (w.alloc (.cells #[.slice none 0 0] 62)) :=
  ⟨fun k => k = w.heap.size ∨ (Value.slice none 0 0).ownBlock = some k, ⟨w.heap.size, .slice none 0 0, rfl, Nat.le_refl _, heap_alloc_new _ _, World.ownsRow_nil _ _ _ _, small_nil, by simp [Value.ownBlock], rfl⟩, (Below.refl _ _).alloc (Nat.le_refl _) _⟩
theorem wr_put {w W : World} {l m : List Nat} {x : Value} (h : WrSt w l W) (hx : U8s W x m) (hl : l.length + m.length ≤ 1000000) : Calls Try.prog 25 #[.pointer (some ⟨w.heap.size, 0, none⟩), x] W (fun e w' => e = .returned (.pointer (some ⟨w.heap.size, 0, none⟩)) ∧ WrSt w (l ++ m) w') :=
  let ⟨_, h1, h2⟩ := h; (put_any _ x _ l m _ W h1 hx hl h2.size).mono fun _ _ k => WrSt.add h1 h2 k
theorem wr_u16 {w W : World} {l : List Nat} (n : Nat) (h : WrSt w l W) (hl : l.length ≤ 900000) : Calls Try.prog 27 #[.pointer (some ⟨w.heap.size, 0, none⟩), .int .i64 n] W (fun e w' => e = .returned (.pointer (some ⟨w.heap.size, 0, none⟩)) ∧ WrSt w (l ++ big n 2) w') :=
  let ⟨_, h1, h2⟩ := h; (w16_put _ _ l _ n W h1 hl h2.size).mono fun _ _ k => WrSt.add h1 h2 (by rw [← big_two]; exact k)
theorem wr_u8 {w W : World} {l : List Nat} (n : Int) (h : WrSt w l W) (hl : l.length ≤ 900000) : Calls Try.prog 28 #[.pointer (some ⟨w.heap.size, 0, none⟩), .int .i64 n] W (fun e w' => e = .returned (.pointer (some ⟨w.heap.size, 0, none⟩)) ∧ WrSt w (l ++ [lo8 n]) w') :=
  let ⟨_, h1, h2⟩ := h; (w8_put _ _ l _ n W h1 hl h2.size).mono fun _ _ k => WrSt.add h1 h2 k
theorem wr_bytes {w W : World} {l : List Nat} (h : WrSt w l W) (hl : l.length ≤ 1000000) : Calls Try.prog 29 #[.pointer (some ⟨w.heap.size, 0, none⟩)] W (fun e w' => ∃ A c, e = .returned (.slice A l.length c) ∧ U8s w' (.slice A l.length c) l ∧ Below w.heap.size w w') :=
  let ⟨_, h1, h2⟩ := h; (wbytes_any _ _ l _ W h1 hl).mono fun _ _ ⟨A, c, he, ho, hb⟩ => ⟨A, c, he, U8s.of_own ho (let ⟨_, _, _, _, _, _, h5, _⟩ := h1; h5), h2.trans (hb.mono h2.size)⟩
set_option maxRecDepth 100000 in
set_option maxHeartbeats 4000000 in
theorem wrap_any (k : Int) (l : List Nat) (hl : l.length ≤ 5000) : ∃ EB er, WrapW k l EB er ∧ ∀ v W, U8s W v l → Calls Try.prog 18 #[.int .i64 k, v] W (WrapF EB er W) := by
  by_cases hk : 1 ≤ k ∧ k ≤ 4
  · by_cases hlen : 4077 < l.length
    · refine ⟨[], 6, .inr (.inl ⟨hk, hlen, rfl, rfl⟩), fun v w hv => ?_⟩
      obtain ⟨A0, c, rfl, -, -⟩ := hv.form
      have CV := hid (fun W => show Calls Try.prog 24 #[.int .i64 k] W (Tells (.bool true) W) from by have h := valid_any k W; rw [decide_eq_true hk] at h; exact h)
      have z1 : 19 + (l.length : Int) > 4096 := by omega
      clear hk hlen hv
      go_enter Try.func18, Try.ntmps18
      go_wp2_with (go_at_call 24; refine (CV.out _).mono ?_; rintro e x ⟨rfl, hb⟩; have HB := hid hb; clear hb)
      go_ret2
      exact ⟨none, 0, rfl, U8s.nil _, HB.out⟩
    · refine ⟨_, 0, .inr (.inr ⟨hk, by omega, rfl, rfl⟩), fun v w hv => ?_⟩
      obtain ⟨A0, c, rfl, -, -⟩ := hv.form
      have HV := hid hv
      have CV := hid (fun W => show Calls Try.prog 24 #[.int .i64 k] W (Tells (.bool true) W) from by have h := valid_any k W; rw [decide_eq_true hk] at h; exact h)
      have CM := hid marker_any
      have z1 : 19 + (l.length : Int) ≤ 4096 := by omega
      have hn : ((19 + l.length : Nat) : Int) = 19 + (l.length : Int) := by omega
      have CP := hid (fun (w W : World) (h : WrSt w [] W) x (hx : U8s W x (List.replicate 16 255)) => show Calls _ _ _ _ (fun e w' => e = .returned (.pointer (some ⟨w.heap.size, 0, none⟩)) ∧ WrSt w (List.replicate 16 255) w') from wr_put h hx (by decide))
      have CN := hid (fun (w W : World) (h : WrSt w (List.replicate 16 255) W) => wr_u16 (19 + l.length) h (by decide))
      have CU := hid (fun (w W : World) (h : WrSt w (List.replicate 16 255 ++ big (19 + l.length) 2) W) => wr_u8 k h (by rw [List.length_append, big_len]; simp))
      have CB := hid (fun (w W : World) (h : WrSt w (List.replicate 16 255 ++ big (19 + l.length) 2 ++ [lo8 k]) W) x (hx : U8s W x l) => show Calls _ _ _ _ (fun e w' => e = .returned (.pointer (some ⟨w.heap.size, 0, none⟩)) ∧ WrSt w (wrapB k l) w') from wr_put h hx (by rw [List.length_append, List.length_append, big_len]; simp; omega))
      have CY := hid (fun (w W : World) (h : WrSt w (wrapB k l) W) => wr_bytes h (by rw [wrapB_len]; omega))
      rw [hn] at CN
      generalize wrapB k l = R5 at CB CY ⊢
      generalize List.replicate 16 255 ++ big (19 + l.length) 2 ++ [lo8 k] = R4 at CU CB
      generalize List.replicate 16 255 ++ big (19 + l.length) 2 = R3 at CN CU
      clear hk hlen hv hn
      go_enter Try.func18, Try.ntmps18
      go_wp2_with (first
        | (go_at_call 24; refine (CV.out _).mono ?_; rintro e x ⟨rfl, hb⟩; have HB := hid hb; have V0 := hid ((HV.out.keep hb)); have S0 := hid (wr_start x); clear hb)
        | (have h := S0.out; go_at_call 26; refine (CM.out _).mono ?_; rintro e x1 ⟨A1, c1, rfl, hu, hb⟩; have S1 := hid (h.keep hb); have U1 := hid hu; clear hu hb h S0)
        | (have h := S1.out; go_at_call 25; refine (CP.out _ _ h _ U1.out).mono ?_; rintro e x2 ⟨rfl, hs⟩; have S2 := hid hs; clear h hs S1 U1)
        | (have h := S2.out; go_at_call 27; refine (CN.out _ _ h).mono ?_; rintro e x3 ⟨rfl, hs⟩; have S3 := hid hs; clear h hs S2)
        | (have h := S3.out; go_at_call 28; refine (CU.out _ _ h).mono ?_; rintro e x4 ⟨rfl, hs⟩; have S4 := hid hs; clear h hs S3)
        | (have h := S4.out; go_at_call 25; refine (CB.out _ _ h _ (V0.out.keep h.low)).mono ?_; rintro e x5 ⟨rfl, hs⟩; have S5 := hid hs; clear h hs S4)
        | (have h := S5.out; go_at_call 29; refine (CY.out _ _ h).mono ?_; rintro e x6 ⟨A6, c6, rfl, hu, hb⟩; have U6 := hid hu; have B6 := hid (HB.out.trans (hb.mono HB.out.size)); clear h hu hb S5))
      go_ret2
      exact ⟨A6, c6, rfl, U6.out, B6.out⟩
  · refine ⟨[], 1, .inl ⟨by omega, rfl, rfl⟩, fun v w hv => ?_⟩
    obtain ⟨A0, c, rfl, -, -⟩ := hv.form
    have CV := hid (fun W => show Calls Try.prog 24 #[.int .i64 k] W (Tells (.bool false) W) from by have h := valid_any k W; rw [decide_eq_false hk] at h; exact h)
    clear hk hv
    go_enter Try.func18, Try.ntmps18
    go_wp2_with (go_at_call 24; refine (CV.out _).mono ?_; rintro e x ⟨rfl, hb⟩; have HB := hid hb; clear hb)
    go_ret2
    exact ⟨none, 0, rfl, U8s.nil _, HB.out⟩
end Go.Proofs.Ytgeekckoepnccaa.Frm
