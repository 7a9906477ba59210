/- The program's Encode of a notice, with all its answers. -/
import Derived.Test.YtplolahbjebbaaaDoorNtcFun
import Derived.Test.YtplolahbjebbaaaDoorOctSized
import Derived.Test.YtplolahbjebbaaaDoorOctLives
import Derived.Deep.RegionHeld3
namespace Go.Proofs.YtplolahbjebbaaaDoor.Ntc
open Go.RowKit Mem Oct Att
open Go.Lib (hid)

/-- The bytes of a good notice. -/
def encN (n : No) : List Nat := [lo8 n.code] ++ [lo8 n.sub] ++ n.data
theorem encN_small {n : No} (h : Small n.data) : Small (encN n) := by
  refine Small.append (fun x hx => ?_) h
  rcases (by simpa using hx : x = lo8 n.code ∨ x = lo8 n.sub) with rfl | rfl <;> exact lo8_lt _
/-- A box of a notice whose data can be read, and a writer. -/
structure EeSt (w w0 : World) (x0 x1 x2 : Value) (d : List Nat) (P : Value) (l : List Nat) (F : Nat → Prop) (W : World) : Prop where
  box : Box3 w0 w.heap.size 24 x0 x1 x2
  dat : U8s w0 x2 d
  bel : Below w.heap.size w w0
  wr : Wr W w0.heap.size P l F
  low : Below w0.heap.size w0 W
section
variable {w w0 W W2 : World} {P x x0 x1 x2 : Value} {d l l2 : List Nat} {F : Nat → Prop} {e : Ending}
theorem EeSt.cells (h : EeSt w w0 x0 x1 x2 d P l F W) : W.cell? ⟨w.heap.size, 0, none⟩ = some x0 ∧ W.cell? ⟨w.heap.size, 1, none⟩ = some x1 ∧ W.cell? ⟨w.heap.size, 2, none⟩ = some x2 := (h.box.keep h.low).cells
theorem EeSt.below (h : EeSt w w0 x0 x1 x2 d P l F W) (hb : Below W.heap.size W W2) : EeSt w w0 x0 x1 x2 d P l F W2 := ⟨h.box, h.dat, h.bel, h.wr.below hb, h.low.trans (hb.mono h.low.size)⟩
theorem EeSt.add (h : EeSt w w0 x0 x1 x2 d P l F W) (k : AddF w0.heap.size P x l2 F W e W2) : ∃ F2, e = .returned x ∧ EeSt w w0 x0 x1 x2 d P l2 F2 W2 := by
  obtain ⟨F2, h1, h2, h3, -⟩ := k
  exact ⟨F2, h1, h.box, h.dat, h.bel, h2, h.low.trans (h3.below (fun k hk => (h.wr.lt k hk).1) h.low.size)⟩
end
/-- What Encode gives: bytes in memory of their own, and a code. -/
def EncF (l : List Nat) (er : Int) (w : World) (e : Ending) (w' : World) : Prop :=
  ∃ A c, e = .returned (.tuple #[.slice A l.length c, .int .i64 er]) ∧ w'.ownsRow w.heap.size 5 1 (.slice A l.length c) l.length (cells8 l) ∧ Below w.heap.size w w'
set_option maxRecDepth 100000 in
theorem enc_bad (v : Value) (n : No) (w : World) (h : Note w v n) (hg : goodN n = false) : Calls Tryd.prog 7 #[v] w (EncF [] 1 w) := by
  have H := hid h
  obtain ⟨-, -, vd, rfl, hd⟩ := h
  have BB := hid (ntc_box w (.int .i64 n.code) (.int .i64 n.sub) vd)
  have CG := hid (good_any _ n _ (H.out.keep BB.out))
  rw [hg] at CG
  clear hd hg
  go_enter Tryd.func7, Tryd.ntmps7
  go_wp2_with (go_at_call 8; refine (CG.out).mono ?_; rintro e x ⟨rfl, hb⟩)
  go_ret2
  exact ⟨none, 0, rfl, own_nil8 _ _, BB.out.trans (hb.mono BB.out.size)⟩
set_option maxRecDepth 100000 in
set_option maxHeartbeats 2000000 in
theorem enc_ok (v : Value) (n : No) (w : World) (h : Note w v n) (hg : goodN n = true) : Calls Tryd.prog 7 #[v] w (EncF (encN n) 0 w) := by
  have H := hid h
  obtain ⟨-, -, vd, rfl, hd⟩ := h
  have HX := hid (Box3.new w 24 (.int .i64 n.code) (.int .i64 n.sub) vd)
  have BB := hid (ntc_box w (.int .i64 n.code) (.int .i64 n.sub) vd)
  have CG := hid (good_any _ n _ (H.out.keep BB.out))
  have HL := hid (goodN_of hg).2.2.2.2
  rw [hg] at CG
  obtain ⟨c0, c1, c2⟩ := HX.out.cells
  have HD := hid (hd.keep BB.out)
  have EN := hid (show [] ++ [lo8 n.code] ++ [lo8 n.sub] ++ n.data = encN n from rfl)
  have EL := hid (show (encN n).length = n.data.length + 2 from by unfold encN; simp)
  generalize encN n = M at EN EL ⊢
  clear hd hg
  go_enter Tryd.func7, Tryd.ntmps7
  go_wp2_with (go_at_call 8; refine (CG.out).mono ?_; rintro e x ⟨rfl, hb⟩; have T0 := hid (EeSt.mk (HX.out.keep hb) (HD.out.keep hb) (BB.out.trans (hb.mono BB.out.size)) (wr_zero x (Nat.le_refl _)) ((Below.refl _ x).alloc (Nat.le_refl _) _)); clear c0 c1 c2 hb; obtain ⟨c0, c1, c2⟩ := T0.out.box.cells; obtain ⟨q0, q1, q2⟩ := T0.out.cells)
  replace T0 := hid (T0.out.below (Below.refl _ _).drew)
  clear q0 q1 q2
  obtain ⟨q0, q1, q2⟩ := T0.out.cells
  go_region_held3 (fun w' => w'.cell? ⟨w.heap.size, 0, none⟩ = some (.int .i64 n.code) ∧ w'.cell? ⟨w.heap.size, 1, none⟩ = some (.int .i64 n.sub) ∧ w'.cell? ⟨w.heap.size, 2, none⟩ = some vd) (exact ⟨by assumption, by assumption, by assumption⟩) (first
    | (have h := T0.out; go_at_call 18; refine (w8_put _ _ _ _ n.code _ h.wr (by simp) h.low.size).mono ?_; intro e z hA; obtain ⟨F, rfl, hS⟩ := h.add hA; have T1 := hid hS; clear h hA hS T0; clear q0 q1 q2; obtain ⟨q0, q1, q2⟩ := T1.out.cells)
    | (have h := T1.out; go_at_call 18; refine (w8_put _ _ _ _ n.sub _ h.wr (by simp) h.low.size).mono ?_; intro e z hA; obtain ⟨F, rfl, hS⟩ := h.add hA; have T2 := hid hS; clear h hA hS T1; clear q0 q1 q2; obtain ⟨q0, q1, q2⟩ := T2.out.cells)
    | (have h := T2.out; go_at_call 19; refine (put_any _ _ _ _ _ _ _ h.wr (h.dat.keep h.low) (by have := HL.out; simp; omega) h.low.size).mono ?_; intro e z hA; obtain ⟨F, rfl, hS⟩ := h.add hA; rw [EN.out] at hS; have T3 := hid hS; clear h hA hS T2; clear q0 q1 q2; obtain ⟨q0, q1, q2⟩ := T3.out.cells)
    | (have h := T3.out; go_at_call 20; refine (wbytes_any _ _ _ _ _ h.wr (by have := HL.out; have := EL.out; omega)).mono ?_; rintro e z ⟨A3, c3, rfl, ho, hb⟩; have T4 := hid (And.intro ho (And.intro h.bel (And.intro h.low hb))); have T5 := hid (h.below hb); clear h ho hb T3; clear q0 q1 q2; obtain ⟨q0, q1, q2⟩ := T5.out.cells))
  go_wp2
  go_ret2
  obtain ⟨h1, h2, h3, h4⟩ := T4.out
  have h5 := h2.trans (h3.mono h2.size)
  exact ⟨A3, c3, rfl, own_base h1 h5.size, h5.trans (h4.mono h5.size)⟩
/-- What Encode tells: bytes, or why there are none. -/
def EncW (n : No) (EB : List Nat) (er : Int) : Prop := (goodN n = false ∧ EB = [] ∧ er = 1) ∨ (goodN n = true ∧ EB = encN n ∧ er = 0)
theorem enc_all (n : No) (hs : Small n.data) : ∃ EB er, EncW n EB er ∧ Small EB ∧ EB.length ≤ 4077 ∧ ∀ v W, Note W v n → Calls Tryd.prog 7 #[v] W (EncF EB er W) := by
  cases hg : goodN n with
  | false => exact ⟨[], 1, .inl ⟨hg, rfl, rfl⟩, small_nil, by decide, fun v W h => enc_bad v n W h hg⟩
  | true => exact ⟨encN n, 0, .inr ⟨hg, rfl, rfl⟩, encN_small hs, by have := (goodN_of hg).2.2.2.2; unfold encN; simp; omega, fun v W h => enc_ok v n W h hg⟩
end Go.Proofs.YtplolahbjebbaaaDoor.Ntc
