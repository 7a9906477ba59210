/- The program's stream is what FramePieces asks of one; the law's small living call. -/
import Derived.Test.YtgeekckoepnccaaFrmFeed
import Derived.Test.YtgeekckoepnccaaFrmWrapP
namespace Go.Proofs.Ytgeekckoepnccaa.Frm
open Go.RowKit Mem Oct Att
open Go.Lib (hid)

theorem face : Face StrT := ⟨str_keep, str_low, str_new, fun h hx _ hl hm hb => feed_any h hx hl hm hb, str_stop, str_waits, str_broken, str_reset⟩
def liveB : List Nat := [255, 255, 255, 255, 255, 255, 255, 255, 255, 255, 255, 255, 255, 255, 255, 255, 0, 19, 4]
theorem live_wrap : wrapB 4 [] = liveB := by decide
theorem live_pcs : pcs liveB = ([(4, [])], 19, ⟨0, 0, []⟩) := rfl
theorem live_feed {base : Nat} {v x : Value} {F : Nat → Prop} {w : World} (h : StrT w base v [] false F) (hx : U8s w x liveB) (hb : base ≤ w.heap.size) :
    Calls Try.prog 9 #[v, x] w (fun e w' => ∃ g off c A2 k2 c2, e = .returned (.tuple #[.slice (some ⟨g, off, none⟩) 1 c, .agg #[.int .i64 0, .int .i64 0, .slice A2 k2 c2]]) ∧ w'.cell? ⟨g, off, none⟩ = some (.int .i64 4) ∧ g < w'.heap.size ∧ Below base w w') :=
  (feed_any (l := []) (m := liveB) h hx (by decide) (by decide) hb).mono fun e w' k => by
    obtain ⟨A, c, q, A2, k2, c2, F', rfl, hr, hB, -, -, -, -, ho, -⟩ := k
    rw [List.nil_append, live_pcs] at hr hB ⊢
    obtain ⟨g, off, x, rfl, hlt, h1, -, -⟩ := Frms.at_ (k := 0) (s := (4, [])) (show Frms w' (.slice A 1 c) [(4, [])] from ⟨q, Row.of_own hr, hB⟩) rfl
    exact ⟨g, off, c, A2, k2, c2, rfl, by simpa using h1, hlt, ho.below (fun k hk => (str_low h k hk).1) hb⟩
theorem live_wraps (w : World) : Calls Try.prog 18 #[.int .i64 4, .slice none 0 0] w (fun e w' => ∃ A c, e = .returned (.tuple #[.slice A 19 c, .int .i64 0]) ∧ U8s w' (.slice A 19 c) liveB ∧ Below w.heap.size w w') := by
  obtain ⟨EB, er, h, hc⟩ := wrap_any 4 [] (by decide)
  rcases h with ⟨h, _⟩ | ⟨_, h, _⟩ | ⟨_, _, rfl, rfl⟩
  · omega
  · simp at h
  · rw [live_wrap] at hc
    exact hc _ w (U8s.nil w)
set_option maxHeartbeats 4000000 in
theorem lives12_any (w : World) : Calls Try.prog 16 #[] w (Tells (.bool true) w) := by
  have CW := hid live_wraps
  have CN := hid str_new
  have CF := hid (fun (base : Nat) (v x : Value) (F : Nat → Prop) (w : World) h hx hb => @live_feed base v x F w h hx hb)
  go_enter Try.func16, Try.ntmps16
  go_upto_region 4 with (first
    | (go_at_call 18; refine (CW.out _).mono ?_; rintro e x1 ⟨A1, c1, rfl, hu, hb⟩; have U1 := hid hu; have B1 := hid hb; clear hu hb)
    | (go_at_call 7; refine (CN.out _).mono ?_; rintro e x2 ⟨b2, F2, rfl, ht, hb⟩; have T2 := hid ht; have U2 := hid (U1.out.keep hb); have S2 := hid hb; have B2 := hid (B1.out.trans (hb.mono B1.out.size)); clear ht hb)
    | (go_at_call 9; refine (CF.out _ _ _ _ _ T2.out U2.out S2.out.size).mono ?_; rintro e x3 ⟨g, off, c3, A3, k3, d3, rfl, hc, hg, hb⟩; have hb2 := box_low x3 (.int .i64 0) (.int .i64 0) (.slice A3 k3 d3); have C3 := hid (keepsT hb2 hc); have X3 := hid (Box3.new x3 29 (.int .i64 0) (.int .i64 0) (.slice A3 k3 d3)); have hb3 := B2.out.trans (hb.mono (Nat.le_trans B1.out.size (Nat.le_refl _))); have B3 := hid (hb3.trans (hb2.mono hb3.size)); clear hc hg hb hb2 hb3))
  obtain ⟨p0, p1, p2⟩ := X3.out.cells
  have c0 := C3.out
  generalize x3.alloc (.cells #[.int .i64 0, .int .i64 0, .slice A3 k3 d3] 29) = z at B3 p0 p1 p2 c0 ⊢
  go_wp2
  go_ret
  exact ⟨rfl, B3.out⟩
end Go.Proofs.Ytgeekckoepnccaa.Frm
