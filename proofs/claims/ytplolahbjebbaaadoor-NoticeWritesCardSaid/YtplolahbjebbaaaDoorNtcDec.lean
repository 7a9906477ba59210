/- The program's Decode of a notice. -/
import Derived.Test.YtplolahbjebbaaaDoorNtcFun
import Derived.Test.YtplolahbjebbaaaDoorOctNew
import Derived.Test.YtplolahbjebbaaaDoorOctRd
namespace Go.Proofs.YtplolahbjebbaaaDoor.Ntc
open Go.RowKit Mem Oct Att
open Go.Lib (hid)

/-- What is read, by the reader's own calls. -/
def rd2 (b : List Nat) : Rd := ((Rd.mk b false).go 1).go 1
def readN (b : List Nat) : No := ⟨((Rd.mk b false).num 1 : Nat), (((Rd.mk b false).go 1).num 1 : Nat), got (rd2 b).l (rd2 b).b (rd2 b).l.length⟩
def badN (b : List Nat) : Bool := fails (rd2 b).l (rd2 b).b (rd2 b).l.length
def okN (b : List Nat) : Bool := !badN b && goodN (readN b)
def outN (b : List Nat) : No := if okN b then readN b else noN
theorem ok_nil : okN [] = false := by decide
theorem ok_one (a : Nat) : okN [a] = false := by
  unfold okN badN rd2
  rw [(head_go a []).1]
  have h : fails ((Rd.mk [] false).go 1).l ((Rd.mk [] false).go 1).b (((Rd.mk [] false).go 1).l.length : Nat) = true := by decide
  rw [h]; rfl
theorem read_two (a c : Nat) (d : List Nat) : readN (a :: c :: d) = ⟨(a : Nat), (c : Nat), d⟩ ∧ badN (a :: c :: d) = false := by
  have h1 := head_go a (c :: d)
  have h2 := head_go c d
  have h3 := fit_go (l := d) (n := d.length) (Nat.le_refl _)
  have e : rd2 (a :: c :: d) = ⟨d, false⟩ := by unfold rd2; rw [h1.1, h2.1]
  constructor
  · unfold readN
    rw [e, h1.2, h1.1, h2.2]
    dsimp only
    rw [h3.2, List.take_length]
  · unfold badN
    rw [e]
    exact congrArg Rd.b h3.1
theorem ok_two (a c : Nat) (d : List Nat) : okN (a :: c :: d) = goodN ⟨(a : Nat), (c : Nat), d⟩ := by
  unfold okN
  rw [(read_two a c d).1, (read_two a c d).2]; rfl
/-- A box of results, and a reader. -/
structure DeSt (w : World) (base n : Nat) (P : Value) (l : List Nat) (b : Bool) (F : Nat → Prop) (W : World) : Prop where
  box : Box3 W w.heap.size 24 (.int .i64 0) (.int .i64 0) (.slice none 0 0)
  low : Below w.heap.size w W
  rd : R W base n P l b F
  lo : w.heap.size < base
theorem DeSt.go {w W W2 : World} {base n : Nat} {P : Value} {l l2 : List Nat} {b b2 : Bool} {F : Nat → Prop} (h : DeSt w base n P l b F W) (hR : R W2 base n P l2 b2 F) (ho : Only F W W2) : DeSt w base n P l2 b2 F W2 :=
  ⟨h.box.below (fun k hk => ho.block k (by rw [hk]; exact h.box.lt) (fun hf => by have := (h.rd.low k hf).1; have := h.lo; omega)),
   h.low.trans (ho.below (fun k hk => by have := (h.rd.low k hk).1; have := h.lo; omega) h.low.size), hR, h.lo⟩
def DecF (b : List Nat) (w : World) (e : Ending) (w' : World) : Prop := ∃ x, e = .returned (.tuple #[x, .bool (okN b)]) ∧ Note w' x (outN b) ∧ Below w.heap.size w w'
theorem nat_wf {n : Nat} (h : n < 256) : (Lit.int .i64 (n : Nat)).wf = true := by simp [Lit.wf, IntKind.min, IntKind.max, IntKind.signed, IntKind.bits]; omega
set_option maxRecDepth 100000 in
set_option maxHeartbeats 4000000 in
theorem decode_any (v : Value) (b : List Nat) (w : World) (hv : U8s w v b) (hl : b.length ≤ 1000000) : Calls Tryd.prog 14 #[v] w (DecF b w) := by
  have HX := hid (Box3.new w 24 (.int .i64 0) (.int .i64 0) (.slice none 0 0))
  have BB := hid (ntc_box w (.int .i64 0) (.int .i64 0) (.slice none 0 0))
  have HS := hid (show w.heap.size < (w.alloc (.cells #[.int .i64 0, .int .i64 0, .slice none 0 0] 24)).heap.size by simp)
  have CN := hid (new_any v b _ (hv.keep BB.out) hl)
  obtain ⟨c0, c1, c2⟩ := HX.out.cells
  have ff := HX.out.free
  have hs1 : Small ((Rd.mk b false).go 1).l := Rd.small (x := ⟨b, false⟩) hv.2 1
  have hn1 : (Rd.mk b false).num 1 < 256 := num_lt (x := ⟨b, false⟩) hv.2 1
  have hn2 : ((Rd.mk b false).go 1).num 1 < 256 := num_lt (x := (Rd.mk b false).go 1) hs1 1
  have hll : (rd2 b).l.length ≤ 1000000 := by
    unfold rd2 Rd.go rest
    dsimp only
    split
    · simp
    · split <;> simp <;> omega
  have CU := hid (fun P base n F W (h : R W base n P b false F) => show Calls Tryd.prog 23 #[P] W (fun e w' => e = .returned (.int .i64 ((Rd.mk b false).num 1 : Nat)) ∧ R w' base n P ((Rd.mk b false).go 1).l ((Rd.mk b false).go 1).b F ∧ Only F W w') from u8_any P base n b false F W hv.2 h)
  have CV := hid (fun P base n F W (h : R W base n P ((Rd.mk b false).go 1).l ((Rd.mk b false).go 1).b F) => show Calls Tryd.prog 23 #[P] W (fun e w' => e = .returned (.int .i64 (((Rd.mk b false).go 1).num 1 : Nat)) ∧ R w' base n P (rd2 b).l (rd2 b).b F ∧ Only F W w') from u8_any P base n _ _ F W hs1 h)
  have CR := hid (fun P base n F W (h : R W base n P (rd2 b).l (rd2 b).b F) => show Calls Tryd.prog 24 #[P] W (fun e w' => ∃ A c, e = .returned (.slice A (readN b).data.length c) ∧ U8s w' (.slice A (readN b).data.length c) (readN b).data ∧ R w' base n P (rest (rd2 b).l (rd2 b).b (rd2 b).l.length) (badN b) F ∧ Only F W w') from rest_any P base n _ _ F W hll h)
  unfold readN at CR
  dsimp only at CR
  unfold DecF outN okN readN
  clear hv hl hs1 hll
  generalize badN b = B at CR ⊢
  generalize got (rd2 b).l (rd2 b).b (rd2 b).l.length = D at CR ⊢
  generalize rest (rd2 b).l (rd2 b).b (rd2 b).l.length = D2 at CR
  generalize rd2 b = y at CV CR
  generalize ((Rd.mk b false).go 1).num 1 = V1 at CV hn2 ⊢
  generalize (Rd.mk b false).num 1 = V0 at CU hn1 ⊢
  generalize (Rd.mk b false).go 1 = z at CU CV
  have wf0 := hid (nat_wf hn1)
  have wf1 := hid (nat_wf hn2)
  have CB := hid (fun P base n l F W (h : R W base n P l B F) => bad_any P base n l B F W h)
  have CG := hid (fun A c W (h : U8s W (.slice A D.length c) D) => good_any (.agg #[.int .i64 (V0 : Nat), .int .i64 (V1 : Nat), .slice A D.length c]) ⟨(V0 : Nat), (V1 : Nat), D⟩ W ⟨wf0.out, wf1.out, _, rfl, h⟩)
  clear hn1 hn2
  generalize goodN ⟨(V0 : Nat), (V1 : Nat), D⟩ = G at CG ⊢
  rcases B with _ | _ <;> rcases G with _ | _
  all_goals
    go_enter Tryd.func14, Tryd.ntmps14
    go_wp2_with (first
      | (have k := T3.out; go_at_call 8; refine (CG.out _ _ _ U4.out).mono ?_; rintro e t ⟨rfl, hb⟩; have U5 := hid (U4.out.keep hb); have X5 := hid (And.intro (X4.out.1.keep hb) (And.intro (X4.out.2.1.trans (hb.mono X4.out.2.1.size)) (X4.out.2.2.keep hb))); clear U4 X4 hb p0 p1 p2 c0 c1 c2 ff; obtain ⟨c0, c1, c2⟩ := X5.out.1.cells; obtain ⟨p0, p1, p2⟩ := X5.out.2.2.cells; have ff := X5.out.1.free)
      | (have h := S3.out; go_at_call 25; refine (CB.out _ _ _ _ _ _ (h.rd.below (ntc_box _ _ _ _))).mono ?_; rintro e s ⟨rfl, hb⟩; have T3 := hid True.intro; have U4 := hid ((U3.out.keep (ntc_box _ _ _ _)).keep hb); have X4 := hid (And.intro ((h.box.keep (ntc_box _ _ _ _)).keep hb) (And.intro ((h.low.trans ((ntc_box _ _ _ _).mono h.low.size)).trans (hb.mono (h.low.trans ((ntc_box _ _ _ _).mono h.low.size)).size)) ((Box3.new _ _ _ _ _).keep hb))); clear S3 U3 h hb c0 c1 c2 ff; obtain ⟨c0, c1, c2⟩ := X4.out.1.cells; obtain ⟨p0, p1, p2⟩ := X4.out.2.2.cells; have ff := X4.out.1.free)
      | (have h := S2.out; go_at_call 24; refine (CR.out _ _ _ _ _ h.rd).mono ?_; rintro e s ⟨A, c, rfl, hU, hR, ho⟩; have S3 := hid (h.go hR ho); have U3 := hid hU; clear h hU hR ho S2 c0 c1 c2 ff; obtain ⟨c0, c1, c2⟩ := S3.out.box.cells; have ff := S3.out.box.free)
      | (have h := S1.out; go_at_call 23; refine (CV.out _ _ _ _ _ h.rd).mono ?_; rintro e s ⟨rfl, hR, ho⟩; have S2 := hid (h.go hR ho); clear h hR ho S1 c0 c1 c2 ff; obtain ⟨c0, c1, c2⟩ := S2.out.box.cells; have ff := S2.out.box.free)
      | (have h := S0.out; go_at_call 23; refine (CU.out _ _ _ _ _ h.rd).mono ?_; rintro e s ⟨rfl, hR, ho⟩; have S1 := hid (h.go hR ho); clear h hR ho S0 c0 c1 c2 ff; obtain ⟨c0, c1, c2⟩ := S1.out.box.cells; have ff := S1.out.box.free)
      | (go_at_call 22; refine CN.out.mono ?_; rintro e s ⟨k, rfl, hR, hb⟩; have S0 := hid (DeSt.mk (HX.out.keep hb) (BB.out.trans (hb.mono BB.out.size)) hR HS.out); clear hR hb c0 c1 c2 ff; obtain ⟨c0, c1, c2⟩ := S0.out.box.cells; have ff := S0.out.box.free))
    (try simp only [Exit.inBlock, Exit.then])
    try have X5 := X4
    first
      | (have r0 := (X5.out.1.set0 (.int .i64 0)).cells.1
         have r1 := ((X5.out.1.set0 (.int .i64 0)).set1 (.int .i64 0)).cells.2.1
         have r2 := (X5.out.1.laid (.int .i64 0) (.int .i64 0) (.slice none 0 0)).cells.2.2
         unfold three at r2
         refine bodyPost_ret (v := .tuple #[.agg #[.int .i64 0, .int .i64 0, .slice none 0 0], .bool false]) (by simp [results, Tryd.results14, go_sem, r0, r1, r2]) rfl ?_
         exact ⟨_, rfl, note_zero _, three_low X5.out.2.1 _ (Nat.le_refl _) _ _ _⟩)
      | (have r0 := (X5.out.1.set0 (.int .i64 (V0 : Nat))).cells.1
         have r1 := ((X5.out.1.set0 (.int .i64 (V0 : Nat))).set1 (.int .i64 (V1 : Nat))).cells.2.1
         have r2 := (X5.out.1.laid (.int .i64 (V0 : Nat)) (.int .i64 (V1 : Nat)) (.slice A D.length c)).cells.2.2
         unfold three at r2
         refine bodyPost_ret (v := .tuple #[.agg #[.int .i64 (V0 : Nat), .int .i64 (V1 : Nat), .slice A D.length c], .bool true]) (by simp [results, Tryd.results14, go_sem, r0, r1, r2]) rfl ?_
         have ho := three_off t w.heap.size (.int .i64 (V0 : Nat)) (.int .i64 (V1 : Nat)) (.slice A D.length c)
         exact ⟨_, rfl, ⟨wf0.out, wf1.out, _, rfl, u8_apart U5.out (X5.out.1.no8 (no8_i _) (no8_i _) (no8_s _ _ _)) ho.1 ho.2⟩, three_low X5.out.2.1 _ (Nat.le_refl _) _ _ _⟩)
end Go.Proofs.YtplolahbjebbaaaDoor.Ntc
