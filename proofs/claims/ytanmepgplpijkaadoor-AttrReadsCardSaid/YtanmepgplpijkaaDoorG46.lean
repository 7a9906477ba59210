/- The reference's lay: an attribute's value, laid among the others. The reference's lay: an aggregator, a path; all types together. Plain mathematics: what bytes tell, as the reference reads them. It speaks of no function of the program. What was read of a way, and what is told of it, in two boxes. -/
import Derived.Test.YtanmepgplpijkaaDoorG38
import Derived.Test.YtanmepgplpijkaaDoorG45
import Derived.Test.YtanmepgplpijkaaDoorG39
namespace Go.Proofs.YtanmepgplpijkaaDoor.Att
open Go.RowKit Mem Segm Oct Seg Nums
structure LaSt (w0 : World) (B : Nat) (y0 y1 y2 y3 y4 y5 y6 y7 y8 : Value) (W : World) : Prop where
  b9 : Box9 W B 26 y0 y1 y2 y3 y4 y5 y6 y7 y8
  on : Only (fun q => q = B) w0 W
section
variable {w0 W W2 : World} {B : Nat} {y0 y1 y2 y3 y4 y5 y6 y7 y8 u : Value}
theorem LaSt.below (h : LaSt w0 B y0 y1 y2 y3 y4 y5 y6 y7 y8 W) (hb : Below W.heap.size W W2) : LaSt w0 B y0 y1 y2 y3 y4 y5 y6 y7 y8 W2 := ⟨h.b9.keep hb, h.on.trans (Only.of hb)⟩
theorem LaSt.set1 (h : LaSt w0 B y0 y1 y2 y3 y4 y5 y6 y7 y8 W) (u : Value) : LaSt w0 B y0 u y2 y3 y4 y5 y6 y7 y8 (W.setCell ⟨B, 1, none⟩ u) := ⟨h.b9.set1 u, h.on.set rfl u⟩
theorem LaSt.set2 (h : LaSt w0 B y0 y1 y2 y3 y4 y5 y6 y7 y8 W) (u : Value) : LaSt w0 B y0 y1 u y3 y4 y5 y6 y7 y8 (W.setCell ⟨B, 2, none⟩ u) := ⟨h.b9.set2 u, h.on.set rfl u⟩
theorem LaSt.set3 (h : LaSt w0 B y0 y1 y2 y3 y4 y5 y6 y7 y8 W) (u : Value) : LaSt w0 B y0 y1 y2 u y4 y5 y6 y7 y8 (W.setCell ⟨B, 3, none⟩ u) := ⟨h.b9.set3 u, h.on.set rfl u⟩
theorem LaSt.set4 (h : LaSt w0 B y0 y1 y2 y3 y4 y5 y6 y7 y8 W) (u : Value) : LaSt w0 B y0 y1 y2 y3 u y5 y6 y7 y8 (W.setCell ⟨B, 4, none⟩ u) := ⟨h.b9.set4 u, h.on.set rfl u⟩
theorem LaSt.set5 (h : LaSt w0 B y0 y1 y2 y3 y4 y5 y6 y7 y8 W) (u : Value) : LaSt w0 B y0 y1 y2 y3 y4 u y6 y7 y8 (W.setCell ⟨B, 5, none⟩ u) := ⟨h.b9.set5 u, h.on.set rfl u⟩
theorem LaSt.set6 (h : LaSt w0 B y0 y1 y2 y3 y4 y5 y6 y7 y8 W) (u : Value) : LaSt w0 B y0 y1 y2 y3 y4 y5 u y7 y8 (W.setCell ⟨B, 6, none⟩ u) := ⟨h.b9.set6 u, h.on.set rfl u⟩
theorem LaSt.set7 (h : LaSt w0 B y0 y1 y2 y3 y4 y5 y6 y7 y8 W) (u : Value) : LaSt w0 B y0 y1 y2 y3 y4 y5 y6 u y8 (W.setCell ⟨B, 7, none⟩ u) := ⟨h.b9.set7 u, h.on.set rfl u⟩
theorem LaSt.set8 (h : LaSt w0 B y0 y1 y2 y3 y4 y5 y6 y7 y8 W) (u : Value) : LaSt w0 B y0 y1 y2 y3 y4 y5 y6 y7 u (W.setCell ⟨B, 8, none⟩ u) := ⟨h.b9.set8 u, h.on.set rfl u⟩
end
def fillR (k : Nat) (v : List Nat) : Nat :=
  if k = 1 then (if 2 < val v then 6 else 0)
  else if k = 2 then (match pathIs v with | some p => if waysP (normS p) then 0 else 11 | none => 11)
  else if k = 3 then (if hopB (val v) then 0 else 8)
  else 0
def layR (a : At) (k : Nat) (v : List Nat) : At :=
  ⟨a.has, if k = 1 then (val v : Nat) else a.origin, if k = 2 then normS ((pathIs v).getD []) else a.path, if k = 3 then val v else a.hop, if k = 4 then val v else a.med, if k = 5 then val v else a.pref,
    if k = 7 then val (v.take 4) else a.aas, if k = 7 then val (v.drop 4) else a.aid, if k = 8 then quads v else a.comms⟩
def LayF (B N : Nat) (a : At) (k : Nat) (v : List Nat) (w : World) (e : Ending) (w' : World) : Prop :=
  e = .returned (.int .i64 (fillR k v : Nat)) ∧ Only (fun q => q = B) w w' ∧ (∃ x1 x2 x3 x4 x5 x6 x7 x8, Box9 w' B 26 (.int .i64 a.has) x1 x2 x3 x4 x5 x6 x7 x8) ∧ (fillR k v = 0 → BoxA w' B N (layR a k v))
theorem quads_four {v : List Nat} (h : v.length = 4) : quads v = [val v] := by
  unfold quads
  rw [h]
  have e : quadsN v (4 / 4) = quadsN v (0 + 1) := rfl
  rw [e, quadsN_succ]
  show [] ++ [val ((v.drop (4 * 0)).take 4)] = _
  rw [List.nil_append, Nat.mul_zero, List.drop_zero, List.take_of_length_le (by omega)]
theorem quads_eight {v : List Nat} (h : v.length = 8) : quads v = [val (v.take 4), val (v.drop 4)] := by
  unfold quads
  rw [h]
  have e : quadsN v (8 / 4) = quadsN v (0 + 1 + 1) := rfl
  rw [e, quadsN_succ, quadsN_succ]
  show [] ++ [val ((v.drop (4 * 0)).take 4)] ++ [val ((v.drop (4 * 1)).take 4)] = _
  rw [List.nil_append, Nat.mul_zero, List.drop_zero, Nat.mul_one, List.take_of_length_le (l := v.drop 4) (by rw [List.length_drop]; omega)]
  rfl
theorem own_cells {W : World} {base n m : Nat} {A : Option Addr} {c : Nat} {e : TypeId} {xs : List Value} (h : W.ownsRow base e 1 (.slice A m c) n xs) (h0 : 0 < n) : ∃ g, A = some ⟨g, 0, none⟩ ∧ base ≤ g ∧ g < W.heap.size ∧ ∀ i x, xs[i]? = some x → W.cell? ⟨g, i, none⟩ = some x := by
  rcases h.2 with ⟨e1, e2⟩ | ⟨g, cap, cur, e, hg, hh, hn, hm, hs, ht⟩
  · have := h.1
    subst e2
    simp at this
    omega
  · injection e with e1 e2 e3
    refine ⟨g, e1, hg, (Array.getElem?_eq_some_iff.1 hh).1, fun i x hx => ?_⟩
    rw [← ht, List.getElem?_take] at hx
    split at hx
    · simpa [World.cell?, hh] using hx
    · cases hx
theorem cell_set {W : World} {B i g j : Nat} {u x : Value} (h : W.cell? ⟨g, j, none⟩ = some x) (hne : g ≠ B) : (W.setCell ⟨B, i, none⟩ u).cell? ⟨g, j, none⟩ = some x := by
  rw [← h]
  exact World.cell?_of_block (Go.RowKit.Below.heap_setCell _ _ _ _ hne)
theorem nums_one (v : Value) (l : List Nat) (w : World) (hv : U8s w v l) (h : l.length = 4) : Calls Tryd.prog 75 #[v] w (fun e w' => ∃ g c, e = .returned (.slice (some ⟨g, 0, none⟩) 1 c) ∧ 1 ≤ c ∧ w.heap.size ≤ g ∧ w'.cell? ⟨g, 0, none⟩ = some (.int .u32 (val l)) ∧ Below w.heap.size w w') :=
  (nums8_any v l w hv (by omega)).mono fun e w' h1 => by
    obtain ⟨vn, rfl, ho, hb⟩ := h1
    rw [quads_four h] at ho
    obtain ⟨A, c, rfl⟩ := own_form ho
    obtain ⟨_, A2, c2, e2, hc, _⟩ := Row.of_own ho
    injection e2 with _ _ e3
    subst e3
    obtain ⟨g, rfl, hg, -, hcell⟩ := own_cells ho (by simp)
    exact ⟨g, c, rfl, hc, hg, hcell 0 _ rfl, hb⟩
theorem nums_two (v : Value) (l : List Nat) (w : World) (hv : U8s w v l) (h : l.length = 8) : Calls Tryd.prog 75 #[v] w (fun e w' => ∃ g c, e = .returned (.slice (some ⟨g, 0, none⟩) 2 c) ∧ 2 ≤ c ∧ w.heap.size ≤ g ∧ w'.cell? ⟨g, 0, none⟩ = some (.int .u32 (val (l.take 4))) ∧ w'.cell? ⟨g, 1, none⟩ = some (.int .u32 (val (l.drop 4))) ∧ Below w.heap.size w w') :=
  (nums8_any v l w hv (by omega)).mono fun e w' h1 => by
    obtain ⟨vn, rfl, ho, hb⟩ := h1
    rw [quads_eight h] at ho
    obtain ⟨A, c, rfl⟩ := own_form ho
    obtain ⟨_, A2, c2, e2, hc, _⟩ := Row.of_own ho
    injection e2 with _ _ e3
    subst e3
    obtain ⟨g, rfl, hg, -, hcell⟩ := own_cells ho (by simp)
    exact ⟨g, c, rfl, hc, hg, hcell 0 _ rfl, hcell 1 _ rfl, hb⟩
theorem nums_any (v : Value) (l : List Nat) (w : World) (hv : U8s w v l) (h : l.length ≤ 4000) : Calls Tryd.prog 75 #[v] w (fun e w' => ∃ A n c, e = .returned (.slice A n c) ∧ U32s w' (.slice A n c) (quads l) ∧ NewAt w.heap.size (.slice A n c) ∧ Below w.heap.size w w') :=
  (nums8_any v l w hv h).mono fun e w' h1 => by
    obtain ⟨vn, rfl, ho, hb⟩ := h1
    obtain ⟨A, c, rfl⟩ := own_form ho
    exact ⟨A, _, c, rfl, U32s.of_own ho (quads_lt hv.2 _), own_new ho (Nat.le_refl _), hb⟩
theorem far_of {B N M g : Nat} (h : B < N ∧ N ≤ M) (hg : M ≤ g) : g ≠ B := by omega
set_option maxRecDepth 100000 in
set_option maxHeartbeats 4000000 in
theorem lay4 (A : Option Addr) (c : Nat) (v : List Nat) (w : World) (B N : Nat) (a : At) (hA : BoxA w B N a) (hv : U8s w (.slice A v.length c) v) (hl : v.length = 4) :
    Calls Tryd.prog 52 #[.pointer (some ⟨B, 0, none⟩), .int .i64 4, .slice A v.length c] w (LayF B N a 4 v w) := by
  obtain ⟨hok, hlt, Ap, np, cp, Ac, nc, cc, h9, hp, hc, hn⟩ := hA
  have HS := Go.Lib.hid hv.2
  have HU := Go.Lib.hid hv
  have HOK := Go.Lib.hid hok
  have HP := Go.Lib.hid hp
  have HC := Go.Lib.hid (And.intro hc hn)
  have H9 := Go.Lib.hid h9
  obtain ⟨hh, ho, hpt, hh3, hh4, hh5, hh6, hh7, hh8⟩ := a
  dsimp only at hp h9 hc hok HP HC H9 HOK
  have HV := Go.Lib.hid (val32 HS.out (by omega))
  have CNM := Go.Lib.hid (nums_one _ v w hv hl)
  clear hv hp hc hn h9 hok hl
  go_enter Tryd.func52, Tryd.ntmps52
  go_wp2_with (go_at_call 75; first | (refine (CNM.out).mono ?_; rintro e x ⟨g, cn, rfl, hcn, hg, n0, hb⟩; have S1 := Go.Lib.hid ((show LaSt w B (.int .i64 hh) (.int .i64 ho) (.slice Ap np cp) (.int .u32 hh3) (.int .u32 hh4) (.int .u32 hh5) (.int .u32 hh6) (.int .u32 hh7) (.slice Ac nc cc) w from ⟨H9.out, Only.refl _ _⟩).below hb); have HG := Go.Lib.hid hg; have hgB : g ≠ B := far_of hlt hg; clear hb hg; obtain ⟨c0, c1, c2, c3, c4, c5, c6, c7, c8⟩ := S1.out.b9.cells; have fB := S1.out.b9.free) | (trace "FELL N"; trace_state; fail_if_success skip))
  have S2 := Go.Lib.hid (S1.out.set4 (.int .u32 (val v)))
  go_ret
  refine ⟨rfl, S2.out.on, ⟨_, _, _, _, _, _, _, _, S2.out.b9⟩, fun _ => ?_⟩
  exact ⟨⟨HOK.out.1, HOK.out.2.1, HOK.out.2.2.1, HV.out, HOK.out.2.2.2.2⟩, ⟨hlt.1, Nat.le_trans hlt.2 S2.out.on.size⟩, Ap, np, cp, Ac, nc, cc, S2.out.b9, segs_on HP.out S2.out.on (fun k e => by subst e; exact hlt.1), u32_on HC.out.1 HC.out.2 S2.out.on (fun k e => by subst e; exact hlt.1), HC.out.2⟩
set_option maxRecDepth 100000 in
set_option maxHeartbeats 4000000 in
theorem lay5 (A : Option Addr) (c : Nat) (v : List Nat) (w : World) (B N : Nat) (a : At) (hA : BoxA w B N a) (hv : U8s w (.slice A v.length c) v) (hl : v.length = 4) :
    Calls Tryd.prog 52 #[.pointer (some ⟨B, 0, none⟩), .int .i64 5, .slice A v.length c] w (LayF B N a 5 v w) := by
  obtain ⟨hok, hlt, Ap, np, cp, Ac, nc, cc, h9, hp, hc, hn⟩ := hA
  have HS := Go.Lib.hid hv.2
  have HU := Go.Lib.hid hv
  have HOK := Go.Lib.hid hok
  have HP := Go.Lib.hid hp
  have HC := Go.Lib.hid (And.intro hc hn)
  have H9 := Go.Lib.hid h9
  obtain ⟨hh, ho, hpt, hh3, hh4, hh5, hh6, hh7, hh8⟩ := a
  dsimp only at hp h9 hc hok HP HC H9 HOK
  have HV := Go.Lib.hid (val32 HS.out (by omega))
  have CNM := Go.Lib.hid (nums_one _ v w hv hl)
  clear hv hp hc hn h9 hok hl
  go_enter Tryd.func52, Tryd.ntmps52
  go_wp2_with (go_at_call 75; first | (refine (CNM.out).mono ?_; rintro e x ⟨g, cn, rfl, hcn, hg, n0, hb⟩; have S1 := Go.Lib.hid ((show LaSt w B (.int .i64 hh) (.int .i64 ho) (.slice Ap np cp) (.int .u32 hh3) (.int .u32 hh4) (.int .u32 hh5) (.int .u32 hh6) (.int .u32 hh7) (.slice Ac nc cc) w from ⟨H9.out, Only.refl _ _⟩).below hb); have HG := Go.Lib.hid hg; have hgB : g ≠ B := far_of hlt hg; clear hb hg; obtain ⟨c0, c1, c2, c3, c4, c5, c6, c7, c8⟩ := S1.out.b9.cells; have fB := S1.out.b9.free) | (trace "FELL N"; trace_state; fail_if_success skip))
  have S2 := Go.Lib.hid (S1.out.set5 (.int .u32 (val v)))
  go_ret
  refine ⟨rfl, S2.out.on, ⟨_, _, _, _, _, _, _, _, S2.out.b9⟩, fun _ => ?_⟩
  exact ⟨⟨HOK.out.1, HOK.out.2.1, HOK.out.2.2.1, HOK.out.2.2.2.1, HV.out, HOK.out.2.2.2.2.2⟩, ⟨hlt.1, Nat.le_trans hlt.2 S2.out.on.size⟩, Ap, np, cp, Ac, nc, cc, S2.out.b9, segs_on HP.out S2.out.on (fun k e => by subst e; exact hlt.1), u32_on HC.out.1 HC.out.2 S2.out.on (fun k e => by subst e; exact hlt.1), HC.out.2⟩
set_option maxRecDepth 100000 in
set_option maxHeartbeats 4000000 in
theorem lay3 (A : Option Addr) (c : Nat) (v : List Nat) (w : World) (B N : Nat) (a : At) (hA : BoxA w B N a) (hv : U8s w (.slice A v.length c) v) (hl : v.length = 4) :
    Calls Tryd.prog 52 #[.pointer (some ⟨B, 0, none⟩), .int .i64 3, .slice A v.length c] w (LayF B N a 3 v w) := by
  obtain ⟨hok, hlt, Ap, np, cp, Ac, nc, cc, h9, hp, hc, hn⟩ := hA
  have HS := Go.Lib.hid hv.2
  have HU := Go.Lib.hid hv
  have HOK := Go.Lib.hid hok
  have HP := Go.Lib.hid hp
  have HC := Go.Lib.hid (And.intro hc hn)
  have H9 := Go.Lib.hid h9
  obtain ⟨hh, ho, hpt, hh3, hh4, hh5, hh6, hh7, hh8⟩ := a
  dsimp only at hp h9 hc hok HP HC H9 HOK
  have HV := Go.Lib.hid (val32 HS.out (by omega))
  have CNM := Go.Lib.hid (nums_one _ v w hv hl)
  have CH := Go.Lib.hid (fun W => refHop8 (val v) W HV.out)
  clear hv hp hc hn h9 hok hl
  cases hh2 : hopB (val v) with
  | false =>
    have HE := Go.Lib.hid (show fillR 3 v = 8 by simp [fillR, hh2])
    rw [hh2] at CH
    clear hh2
    unfold LayF
    rw [HE.out]
    go_enter Tryd.func52, Tryd.ntmps52
    go_wp2_with (first
      | (go_at_call 75; first | (refine (CNM.out).mono ?_; rintro e x ⟨g, cn, rfl, hcn, hg, n0, hb⟩; have S1 := Go.Lib.hid ((show LaSt w B (.int .i64 hh) (.int .i64 ho) (.slice Ap np cp) (.int .u32 hh3) (.int .u32 hh4) (.int .u32 hh5) (.int .u32 hh6) (.int .u32 hh7) (.slice Ac nc cc) w from ⟨H9.out, Only.refl _ _⟩).below hb); have HG := Go.Lib.hid hg; have hgB : g ≠ B := far_of hlt hg; clear hb hg; obtain ⟨c0, c1, c2, c3, c4, c5, c6, c7, c8⟩ := S1.out.b9.cells; have fB := S1.out.b9.free) | (trace "FELL N"; trace_state; fail_if_success skip))
      | (go_at_call 16; first | (refine (CH.out _).mono ?_; rintro e y ⟨rfl, hb⟩; have S3 := Go.Lib.hid ((S1.out.set3 (.int .u32 (val v))).below hb); clear hb) | (trace "FELL H"; trace_state; fail_if_success skip)))
    go_ret
    refine ⟨rfl, S3.out.on, ⟨_, _, _, _, _, _, _, _, S3.out.b9⟩, fun hz => ?_⟩
    cases hz
  | true =>
    have HE := Go.Lib.hid (show fillR 3 v = 0 by simp [fillR, hh2])
    rw [hh2] at CH
    clear hh2
    unfold LayF
    rw [HE.out]
    go_enter Tryd.func52, Tryd.ntmps52
    go_wp2_with (first
      | (go_at_call 75; first | (refine (CNM.out).mono ?_; rintro e x ⟨g, cn, rfl, hcn, hg, n0, hb⟩; have S1 := Go.Lib.hid ((show LaSt w B (.int .i64 hh) (.int .i64 ho) (.slice Ap np cp) (.int .u32 hh3) (.int .u32 hh4) (.int .u32 hh5) (.int .u32 hh6) (.int .u32 hh7) (.slice Ac nc cc) w from ⟨H9.out, Only.refl _ _⟩).below hb); have HG := Go.Lib.hid hg; have hgB : g ≠ B := far_of hlt hg; clear hb hg; obtain ⟨c0, c1, c2, c3, c4, c5, c6, c7, c8⟩ := S1.out.b9.cells; have fB := S1.out.b9.free) | (trace "FELL N"; trace_state; fail_if_success skip))
      | (go_at_call 16; first | (refine (CH.out _).mono ?_; rintro e y ⟨rfl, hb⟩; have S3 := Go.Lib.hid ((S1.out.set3 (.int .u32 (val v))).below hb); clear hb) | (trace "FELL H"; trace_state; fail_if_success skip)))
    go_ret
    refine ⟨rfl, S3.out.on, ⟨_, _, _, _, _, _, _, _, S3.out.b9⟩, fun hz => ?_⟩
    exact ⟨⟨HOK.out.1, HOK.out.2.1, HV.out, HOK.out.2.2.2⟩, ⟨hlt.1, Nat.le_trans hlt.2 S3.out.on.size⟩, Ap, np, cp, Ac, nc, cc, S3.out.b9, segs_on HP.out S3.out.on (fun k e => by subst e; exact hlt.1), u32_on HC.out.1 HC.out.2 S3.out.on (fun k e => by subst e; exact hlt.1), HC.out.2⟩
set_option maxRecDepth 100000 in
set_option maxHeartbeats 4000000 in
theorem lay6 (A : Option Addr) (c : Nat) (v : List Nat) (w : World) (B N : Nat) (a : At) (hA : BoxA w B N a) (hv : U8s w (.slice A v.length c) v) (hl : v.length ≤ 4000) :
    Calls Tryd.prog 52 #[.pointer (some ⟨B, 0, none⟩), .int .i64 6, .slice A v.length c] w (LayF B N a 6 v w) := by
  obtain ⟨hok, hlt, Ap, np, cp, Ac, nc, cc, h9, hp, hc, hn⟩ := hA
  have HOK := Go.Lib.hid hok
  have HP := Go.Lib.hid hp
  have HC := Go.Lib.hid (And.intro hc hn)
  have H9 := Go.Lib.hid h9
  obtain ⟨hh, ho, hpt, hh3, hh4, hh5, hh6, hh7, hh8⟩ := a
  dsimp only at hp h9 hc hok HP HC H9 HOK
  have CNM := Go.Lib.hid (nums_any _ v w hv hl)
  clear hv hp hc hn h9 hok hl
  go_enter Tryd.func52, Tryd.ntmps52
  go_wp2_with (go_at_call 75; first | (refine (CNM.out).mono ?_; rintro e x ⟨An, nn, cn, rfl, hU, hN, hb⟩; have S1 := Go.Lib.hid ((show LaSt w B (.int .i64 hh) (.int .i64 ho) (.slice Ap np cp) (.int .u32 hh3) (.int .u32 hh4) (.int .u32 hh5) (.int .u32 hh6) (.int .u32 hh7) (.slice Ac nc cc) w from ⟨H9.out, Only.refl _ _⟩).below hb); have HN := Go.Lib.hid (And.intro hU hN); clear hb hU hN; obtain ⟨c0, c1, c2, c3, c4, c5, c6, c7, c8⟩ := S1.out.b9.cells; have fB := S1.out.b9.free) | (trace "FELL N"; trace_state; fail_if_success skip))
  go_ret
  refine ⟨rfl, S1.out.on, ⟨_, _, _, _, _, _, _, _, S1.out.b9⟩, fun _ => ?_⟩
  exact ⟨HOK.out, ⟨hlt.1, Nat.le_trans hlt.2 S1.out.on.size⟩, Ap, np, cp, Ac, nc, cc, S1.out.b9, segs_on HP.out S1.out.on (fun k e => by subst e; exact hlt.1), u32_on HC.out.1 HC.out.2 S1.out.on (fun k e => by subst e; exact hlt.1), HC.out.2⟩
set_option maxRecDepth 100000 in
set_option maxHeartbeats 4000000 in
theorem lay8 (A : Option Addr) (c : Nat) (v : List Nat) (w : World) (B N : Nat) (a : At) (hA : BoxA w B N a) (hv : U8s w (.slice A v.length c) v) (hl : v.length ≤ 4000) :
    Calls Tryd.prog 52 #[.pointer (some ⟨B, 0, none⟩), .int .i64 8, .slice A v.length c] w (LayF B N a 8 v w) := by
  obtain ⟨hok, hlt, Ap, np, cp, Ac, nc, cc, h9, hp, hc, hn⟩ := hA
  have HOK := Go.Lib.hid hok
  have HP := Go.Lib.hid hp
  have HC := Go.Lib.hid (And.intro hc hn)
  have H9 := Go.Lib.hid h9
  obtain ⟨hh, ho, hpt, hh3, hh4, hh5, hh6, hh7, hh8⟩ := a
  dsimp only at hp h9 hc hok HP HC H9 HOK
  have CNM := Go.Lib.hid (nums_any _ v w hv hl)
  clear hv hp hc hn h9 hok hl
  go_enter Tryd.func52, Tryd.ntmps52
  go_wp2_with (go_at_call 75; first | (refine (CNM.out).mono ?_; rintro e x ⟨An, nn, cn, rfl, hU, hN, hb⟩; have S1 := Go.Lib.hid ((show LaSt w B (.int .i64 hh) (.int .i64 ho) (.slice Ap np cp) (.int .u32 hh3) (.int .u32 hh4) (.int .u32 hh5) (.int .u32 hh6) (.int .u32 hh7) (.slice Ac nc cc) w from ⟨H9.out, Only.refl _ _⟩).below hb); have HN := Go.Lib.hid (And.intro hU hN); clear hb hU hN; obtain ⟨c0, c1, c2, c3, c4, c5, c6, c7, c8⟩ := S1.out.b9.cells; have fB := S1.out.b9.free) | (trace "FELL N"; trace_state; fail_if_success skip))
  have S2 := Go.Lib.hid (S1.out.set8 (.slice An nn cn))
  go_ret
  refine ⟨rfl, S2.out.on, ⟨_, _, _, _, _, _, _, _, S2.out.b9⟩, fun _ => ?_⟩
  exact ⟨HOK.out, ⟨hlt.1, Nat.le_trans hlt.2 S2.out.on.size⟩, Ap, np, cp, An, nn, cn, S2.out.b9, segs_on HP.out S2.out.on (fun k e => by subst e; exact hlt.1), u32_off HN.out.1 (HN.out.2.lower hlt.2) (off_set _ hlt.1) (by simp), HN.out.2.lower hlt.2⟩
set_option maxRecDepth 100000 in
set_option maxHeartbeats 4000000 in
theorem lay1 (A : Option Addr) (c : Nat) (v : List Nat) (w : World) (B N : Nat) (a : At) (hA : BoxA w B N a) (hv : U8s w (.slice A v.length c) v) (hl : v.length = 1) :
    Calls Tryd.prog 52 #[.pointer (some ⟨B, 0, none⟩), .int .i64 1, .slice A v.length c] w (LayF B N a 1 v w) := by
  obtain ⟨hok, hlt, Ap, np, cp, Ac, nc, cc, h9, hp, hc, hn⟩ := hA
  have HS := Go.Lib.hid hv.2
  have HU := Go.Lib.hid hv
  have HOK := Go.Lib.hid hok
  have HP := Go.Lib.hid hp
  have HC := Go.Lib.hid (And.intro hc hn)
  have H9 := Go.Lib.hid h9
  obtain ⟨hh, ho, hpt, hh3, hh4, hh5, hh6, hh7, hh8⟩ := a
  dsimp only at hp h9 hc hok HP HC H9 HOK
  have CNM := Go.Lib.hid (nums_any _ v w hv (by omega))
  obtain ⟨b, off, o, rfl, hbl, hvo, ho8, co⟩ := hv.at_ (k := 0) (by omega)
  rw [Nat.add_zero] at co
  have hval : val v = o := by
    match v, hl, hvo with
    | [y], _, hvo =>
      injection hvo with hvo
      subst hvo
      show 0 * 256 + y = y
      omega
  have hoB : b ≠ B := fun e => by subst e; exact (h9.no8 n9) _ _ co
  have HKO := Go.Lib.hid (fun (W : World) (hb : Below w.heap.size w W) => keeps hb co)
  have HV := Go.Lib.hid (show (Lit.int .i64 ((o : Nat) : Int)).wf = true by simp [Lit.wf, IntKind.min, IntKind.max, IntKind.signed, IntKind.bits]; omega)
  obtain ⟨L, hL⟩ : ∃ L, L = v.length := ⟨_, rfl⟩
  have z0 : (0 : Int) < (L : Int) := by omega
  rw [← hL] at CNM ⊢
  clear hv hp hc hn h9 hok hl hL hvo co
  unfold LayF layR fillR
  simp only [hval, if_true]
  clear hval
  by_cases h2 : 2 < o
  · have z1 : (o : Int) > 2 := by omega
    rw [if_pos h2]
    clear h2
    go_enter Tryd.func52, Tryd.ntmps52
    go_wp2_with (go_at_call 75; first | (refine (CNM.out).mono ?_; rintro e x ⟨An, nn, cn, rfl, hU, hN, hb⟩; have S1 := Go.Lib.hid ((show LaSt w B (.int .i64 hh) (.int .i64 ho) (.slice Ap np cp) (.int .u32 hh3) (.int .u32 hh4) (.int .u32 hh5) (.int .u32 hh6) (.int .u32 hh7) (.slice Ac nc cc) w from ⟨H9.out, Only.refl _ _⟩).below hb); have HN := Go.Lib.hid (And.intro hU hN); have HBX := Go.Lib.hid hb; clear hb hU hN; obtain ⟨c0, c1, c2, c3, c4, c5, c6, c7, c8⟩ := S1.out.b9.cells; have fB := S1.out.b9.free; have k0 := HKO.out _ HBX.out; have k1 := cell_set (B := B) (i := 1) (u := .int .i64 o) k0 hoB) | (trace "FELL N"; trace_state; fail_if_success skip))
    have S2 := Go.Lib.hid (S1.out.set1 (.int .i64 o))
    go_ret
    exact ⟨rfl, S2.out.on, _, _, _, _, _, _, _, _, S2.out.b9⟩
  · have z1 : decide ((2 : Int) < (o : Int)) = false := decide_eq_false (by omega)
    rw [if_neg h2]
    clear h2
    go_enter Tryd.func52, Tryd.ntmps52
    go_wp2_with (go_at_call 75; first | (refine (CNM.out).mono ?_; rintro e x ⟨An, nn, cn, rfl, hU, hN, hb⟩; have S1 := Go.Lib.hid ((show LaSt w B (.int .i64 hh) (.int .i64 ho) (.slice Ap np cp) (.int .u32 hh3) (.int .u32 hh4) (.int .u32 hh5) (.int .u32 hh6) (.int .u32 hh7) (.slice Ac nc cc) w from ⟨H9.out, Only.refl _ _⟩).below hb); have HN := Go.Lib.hid (And.intro hU hN); have HBX := Go.Lib.hid hb; clear hb hU hN; obtain ⟨c0, c1, c2, c3, c4, c5, c6, c7, c8⟩ := S1.out.b9.cells; have fB := S1.out.b9.free; have k0 := HKO.out _ HBX.out; have k1 := cell_set (B := B) (i := 1) (u := .int .i64 o) k0 hoB) | (trace "FELL N"; trace_state; fail_if_success skip))
    have S2 := Go.Lib.hid (S1.out.set1 (.int .i64 o))
    go_ret
    refine ⟨rfl, S2.out.on, ⟨_, _, _, _, _, _, _, _, S2.out.b9⟩, ?_⟩
    exact ⟨⟨HOK.out.1, HV.out, HOK.out.2.2⟩, ⟨hlt.1, Nat.le_trans hlt.2 S2.out.on.size⟩, Ap, np, cp, Ac, nc, cc, S2.out.b9, segs_on HP.out S2.out.on (fun k e => by subst e; exact hlt.1), u32_on HC.out.1 HC.out.2 S2.out.on (fun k e => by subst e; exact hlt.1), HC.out.2⟩
end Go.Proofs.YtanmepgplpijkaaDoor.Att
namespace Go.Proofs.YtanmepgplpijkaaDoor.Att
open Go.RowKit Mem Segm Oct Seg Nums
set_option maxRecDepth 100000 in
set_option maxHeartbeats 4000000 in
theorem lay7 (A : Option Addr) (c : Nat) (v : List Nat) (w : World) (B N : Nat) (a : At) (hA : BoxA w B N a) (hv : U8s w (.slice A v.length c) v) (hl : v.length = 8) :
    Calls Tryd.prog 52 #[.pointer (some ⟨B, 0, none⟩), .int .i64 7, .slice A v.length c] w (LayF B N a 7 v w) := by
  obtain ⟨hok, hlt, Ap, np, cp, Ac, nc, cc, h9, hp, hc, hn⟩ := hA
  have HS := Go.Lib.hid hv.2
  have HU := Go.Lib.hid hv
  have HOK := Go.Lib.hid hok
  have HP := Go.Lib.hid hp
  have HC := Go.Lib.hid (And.intro hc hn)
  have H9 := Go.Lib.hid h9
  obtain ⟨hh, ho, hpt, hh3, hh4, hh5, hh6, hh7, hh8⟩ := a
  dsimp only at hp h9 hc hok HP HC H9 HOK
  have HV := Go.Lib.hid (val32 (HS.out.take 4) (List.length_take_le _ _))
  have HV2 := Go.Lib.hid (val32 (HS.out.drop 4) (by rw [List.length_drop]; omega))
  have CNM := Go.Lib.hid (nums_two _ v w hv hl)
  clear hv hp hc hn h9 hok hl
  go_enter Tryd.func52, Tryd.ntmps52
  go_wp2_with (go_at_call 75; first | (refine (CNM.out).mono ?_; rintro e x ⟨g, cn, rfl, hcn, hg, n0, n1, hb⟩; have S1 := Go.Lib.hid ((show LaSt w B (.int .i64 hh) (.int .i64 ho) (.slice Ap np cp) (.int .u32 hh3) (.int .u32 hh4) (.int .u32 hh5) (.int .u32 hh6) (.int .u32 hh7) (.slice Ac nc cc) w from ⟨H9.out, Only.refl _ _⟩).below hb); have HG := Go.Lib.hid hg; have hgB : g ≠ B := far_of hlt hg; clear hb hg) | (trace "FELL N"; trace_state; fail_if_success skip))
  have SD := Go.Lib.hid (S1.out.below (Below.refl _ _).drew)
  replace n0 := keeps (Below.refl x.heap.size x).drew n0
  replace n1 := keeps (Below.refl x.heap.size x).drew n1
  obtain ⟨c0, c1, c2, c3, c4, c5, c6, c7, c8⟩ := SD.out.b9.cells
  have fB := SD.out.b9.free
  obtain ⟨b0, b1, b2, b3, b4, b5, b6, b7, b8⟩ := S1.out.b9.cells
  have gB := S1.out.b9.free
  go_region
  have S2 := Go.Lib.hid (((S1.out.set6 (.int .u32 (val (v.take 4)))).set7 (.int .u32 (val (v.drop 4)))).below (Below.refl _ _).drew)
  go_wp2
  go_ret
  refine ⟨rfl, S2.out.on, ⟨_, _, _, _, _, _, _, _, S2.out.b9⟩, fun _ => ?_⟩
  exact ⟨⟨HOK.out.1, HOK.out.2.1, HOK.out.2.2.1, HOK.out.2.2.2.1, HOK.out.2.2.2.2.1, HV.out, HV2.out⟩, ⟨hlt.1, Nat.le_trans hlt.2 S2.out.on.size⟩, Ap, np, cp, Ac, nc, cc, S2.out.b9, segs_on HP.out S2.out.on (fun k e => by subst e; exact hlt.1), u32_on HC.out.1 HC.out.2 S2.out.on (fun k e => by subst e; exact hlt.1), HC.out.2⟩
set_option maxRecDepth 100000 in
set_option maxHeartbeats 4000000 in
theorem lay2 (A : Option Addr) (c : Nat) (v : List Nat) (w : World) (B N : Nat) (a : At) (hA : BoxA w B N a) (hv : U8s w (.slice A v.length c) v) (hl : v.length ≤ 1600) :
    Calls Tryd.prog 52 #[.pointer (some ⟨B, 0, none⟩), .int .i64 2, .slice A v.length c] w (LayF B N a 2 v w) := by
  obtain ⟨hok, hlt, Ap, np, cp, Ac, nc, cc, h9, hp, hc, hn⟩ := hA
  have HS := Go.Lib.hid hv.2
  have HU := Go.Lib.hid hv
  have HOK := Go.Lib.hid hok
  have HP := Go.Lib.hid hp
  have HC := Go.Lib.hid (And.intro hc hn)
  have H9 := Go.Lib.hid h9
  obtain ⟨hh, ho, hpt, hh3, hh4, hh5, hh6, hh7, hh8⟩ := a
  dsimp only at hp h9 hc hok HP HC H9 HOK
  have CNM := Go.Lib.hid (nums_any _ v w hv (by omega))
  have CP := Go.Lib.hid (fun (W : World) (h : Below w.heap.size w W) => refPath_any _ v W (HU.out.keep h) (by omega))
  unfold PathF at CP
  cases hp2 : pathIs v with
  | none =>
    have HE := Go.Lib.hid (show fillR 2 v = 11 by simp [fillR, hp2])
    rw [hp2] at CP
    have CM := Go.Lib.hid (fun (v' : Value) (W : World) (h : Segs W v' []) => norm_anyF v' [] W h (by decide) (fun s hs => by cases hs))
    clear hv hp hc hn h9 hok hl hp2
    unfold LayF
    rw [HE.out]
    go_enter Tryd.func52, Tryd.ntmps52
    go_wp2_with (first
      | (go_at_call 75; first | (refine (CNM.out).mono ?_; rintro e x ⟨An, nn, cn, rfl, hU, hN, hb⟩; have S1 := Go.Lib.hid ((show LaSt w B (.int .i64 hh) (.int .i64 ho) (.slice Ap np cp) (.int .u32 hh3) (.int .u32 hh4) (.int .u32 hh5) (.int .u32 hh6) (.int .u32 hh7) (.slice Ac nc cc) w from ⟨H9.out, Only.refl _ _⟩).below hb); have HN := Go.Lib.hid (And.intro hU hN); have BX := Go.Lib.hid hb; clear hb hU hN; obtain ⟨c0, c1, c2, c3, c4, c5, c6, c7, c8⟩ := S1.out.b9.cells; have fB := S1.out.b9.free) | (trace "FELL N"; trace_state; fail_if_success skip))
      | (go_at_call 25; first | (have h := BX.out; refine (CP.out _ h).mono ?_; rintro e y ⟨hb2, rfl⟩; have S2 := Go.Lib.hid (S1.out.below hb2); have BY := Go.Lib.hid (h.trans (hb2.mono h.size)); clear hb2 h) | (trace "FELL P"; trace_state; fail_if_success skip))
      | (go_at_call 38; first | (refine (CM.out _ _ (show Segs _ (.slice none 0 0) [] from ⟨[], Row.nil _ 2, Nums32.nil _⟩)).mono ?_; rintro e z ⟨vz, rfl, hz, hb3⟩; obtain ⟨az, cz, rfl⟩ := hz.form; have HZ := Go.Lib.hid (hz.lower (Nat.le_trans hlt.2 BY.out.size) (Nat.le_trans hlt.2 BY.out.size)); have S3 := Go.Lib.hid (S2.out.below hb3); clear hb3 hz; obtain ⟨c0, c1, c2, c3, c4, c5, c6, c7, c8⟩ := S3.out.b9.cells; have fB := S3.out.b9.free; have S4 := Go.Lib.hid (S3.out.set2 (.slice az 0 cz)); obtain ⟨d0, d1, d2, d3, d4, d5, d6, d7, d8⟩ := S4.out.b9.cells) | (trace "FELL M"; trace_state; fail_if_success skip)))
    go_ret
    refine ⟨rfl, S4.out.on, ⟨_, _, _, _, _, _, _, _, S4.out.b9⟩, fun hz => ?_⟩
    cases hz
  | some p =>
    obtain ⟨hpl, hpf⟩ := pathIs_len HS.out hp2
    have HEQ := Go.Lib.hid (show fillR 2 v = if waysP (normS p) then 0 else 11 by simp [fillR, hp2])
    have HPV := Go.Lib.hid (show (pathIs v).getD [] = p by rw [hp2]; rfl)
    have hln := lens_norm p
    rw [hp2] at CP
    have CM := Go.Lib.hid (fun (v' : Value) (W : World) (h : Segs W v' p) => norm_anyF v' p W h (by rw [bulk_is]; omega) (fun s hs => Nat.le_trans (hpf s hs) (by decide)))
    have CW := Go.Lib.hid (fun (v' : Value) (W : World) (h : Segs W v' (normS p)) => refWays8 v' (normS p) W h (by omega))
    clear hv hp hc hn h9 hok hl hp2 hln hpl hpf
    unfold LayF
    rw [HEQ.out]
    cases hw : waysP (normS p) with
    | false =>
      rw [hw] at CW
      rw [if_neg (by decide)]
      clear hw HEQ
      go_enter Tryd.func52, Tryd.ntmps52
      go_wp2_with (first
        | (go_at_call 75; first | (refine (CNM.out).mono ?_; rintro e x ⟨An, nn, cn, rfl, hU, hN, hb⟩; have S1 := Go.Lib.hid ((show LaSt w B (.int .i64 hh) (.int .i64 ho) (.slice Ap np cp) (.int .u32 hh3) (.int .u32 hh4) (.int .u32 hh5) (.int .u32 hh6) (.int .u32 hh7) (.slice Ac nc cc) w from ⟨H9.out, Only.refl _ _⟩).below hb); have HN := Go.Lib.hid (And.intro hU hN); have BX := Go.Lib.hid hb; clear hb hU hN; obtain ⟨c0, c1, c2, c3, c4, c5, c6, c7, c8⟩ := S1.out.b9.cells; have fB := S1.out.b9.free) | (trace "FELL N"; trace_state; fail_if_success skip))
        | (go_at_call 25; first | (have h := BX.out; refine (CP.out _ h).mono ?_; rintro e y ⟨hb2, vq, rfl, hq⟩; obtain ⟨aq, cq, rfl⟩ := hq.form; have HQ := Go.Lib.hid hq.segs; clear hq; have S2 := Go.Lib.hid (S1.out.below hb2); have BY := Go.Lib.hid (h.trans (hb2.mono h.size)); clear hb2 h) | (trace "FELL P"; trace_state; fail_if_success skip))
        | (go_at_call 38; first | (refine (CM.out _ _ HQ.out).mono ?_; rintro e z ⟨vz, rfl, hz, hb3⟩; obtain ⟨az, cz, rfl⟩ := hz.form; have HZ := Go.Lib.hid (hz.lower (Nat.le_trans hlt.2 BY.out.size) (Nat.le_trans hlt.2 BY.out.size)); have S3 := Go.Lib.hid (S2.out.below hb3); clear hb3 hz; obtain ⟨c0, c1, c2, c3, c4, c5, c6, c7, c8⟩ := S3.out.b9.cells; have fB := S3.out.b9.free; have S4 := Go.Lib.hid (S3.out.set2 (.slice az (normS p).length cz)); obtain ⟨d0, d1, d2, d3, d4, d5, d6, d7, d8⟩ := S4.out.b9.cells) | (trace "FELL M"; trace_state; fail_if_success skip))
        | (go_at_call 34; first | (refine (CW.out _ _ (segs_off HZ.out (off_set (B := B) (i := 2) (.slice az (normS p).length cz) hlt.1) (by simp)).segs).mono ?_; rintro e u ⟨rfl, hb4⟩; have S5 := Go.Lib.hid (S4.out.below hb4); have HZ5 := Go.Lib.hid ((segs_off HZ.out (off_set (B := B) (i := 2) (.slice az (normS p).length cz) hlt.1) (by simp)).keep hb4); clear hb4) | (trace "FELL W"; trace_state; fail_if_success skip)))
      go_ret
      refine ⟨rfl, S5.out.on, ⟨_, _, _, _, _, _, _, _, S5.out.b9⟩, fun hz => ?_⟩
      cases hz
    | true =>
      rw [hw] at CW
      rw [if_pos (by decide)]
      clear hw HEQ
      go_enter Tryd.func52, Tryd.ntmps52
      go_wp2_with (first
        | (go_at_call 75; first | (refine (CNM.out).mono ?_; rintro e x ⟨An, nn, cn, rfl, hU, hN, hb⟩; have S1 := Go.Lib.hid ((show LaSt w B (.int .i64 hh) (.int .i64 ho) (.slice Ap np cp) (.int .u32 hh3) (.int .u32 hh4) (.int .u32 hh5) (.int .u32 hh6) (.int .u32 hh7) (.slice Ac nc cc) w from ⟨H9.out, Only.refl _ _⟩).below hb); have HN := Go.Lib.hid (And.intro hU hN); have BX := Go.Lib.hid hb; clear hb hU hN; obtain ⟨c0, c1, c2, c3, c4, c5, c6, c7, c8⟩ := S1.out.b9.cells; have fB := S1.out.b9.free) | (trace "FELL N"; trace_state; fail_if_success skip))
        | (go_at_call 25; first | (have h := BX.out; refine (CP.out _ h).mono ?_; rintro e y ⟨hb2, vq, rfl, hq⟩; obtain ⟨aq, cq, rfl⟩ := hq.form; have HQ := Go.Lib.hid hq.segs; clear hq; have S2 := Go.Lib.hid (S1.out.below hb2); have BY := Go.Lib.hid (h.trans (hb2.mono h.size)); clear hb2 h) | (trace "FELL P"; trace_state; fail_if_success skip))
        | (go_at_call 38; first | (refine (CM.out _ _ HQ.out).mono ?_; rintro e z ⟨vz, rfl, hz, hb3⟩; obtain ⟨az, cz, rfl⟩ := hz.form; have HZ := Go.Lib.hid (hz.lower (Nat.le_trans hlt.2 BY.out.size) (Nat.le_trans hlt.2 BY.out.size)); have S3 := Go.Lib.hid (S2.out.below hb3); clear hb3 hz; obtain ⟨c0, c1, c2, c3, c4, c5, c6, c7, c8⟩ := S3.out.b9.cells; have fB := S3.out.b9.free; have S4 := Go.Lib.hid (S3.out.set2 (.slice az (normS p).length cz)); obtain ⟨d0, d1, d2, d3, d4, d5, d6, d7, d8⟩ := S4.out.b9.cells) | (trace "FELL M"; trace_state; fail_if_success skip))
        | (go_at_call 34; first | (refine (CW.out _ _ (segs_off HZ.out (off_set (B := B) (i := 2) (.slice az (normS p).length cz) hlt.1) (by simp)).segs).mono ?_; rintro e u ⟨rfl, hb4⟩; have S5 := Go.Lib.hid (S4.out.below hb4); have HZ5 := Go.Lib.hid ((segs_off HZ.out (off_set (B := B) (i := 2) (.slice az (normS p).length cz) hlt.1) (by simp)).keep hb4); clear hb4) | (trace "FELL W"; trace_state; fail_if_success skip)))
      go_ret
      refine ⟨rfl, S5.out.on, ⟨_, _, _, _, _, _, _, _, S5.out.b9⟩, fun hz => ?_⟩
      refine ⟨HOK.out, ⟨hlt.1, Nat.le_trans hlt.2 S5.out.on.size⟩, az, _, cz, Ac, nc, cc, S5.out.b9, ?_, u32_on HC.out.1 HC.out.2 S5.out.on (fun k e => by subst e; exact hlt.1), HC.out.2⟩
      show OwnSegsF 78 N N _ _ (normS ((pathIs v).getD []))
      rw [HPV.out]
      exact HZ5.out
theorem lay_any (k : Nat) (A : Option Addr) (c : Nat) (v : List Nat) (w : World) (B N : Nat) (a : At) (hA : BoxA w B N a) (hv : U8s w (.slice A v.length c) v) (h1 : 1 ≤ k) (h8 : k ≤ 8) (hl : longB k v.length = true) (hm : v.length ≤ 1600) :
    Calls Tryd.prog 52 #[.pointer (some ⟨B, 0, none⟩), .int .i64 k, .slice A v.length c] w (LayF B N a k v w) := by
  have hk : k = 1 ∨ k = 2 ∨ k = 3 ∨ k = 4 ∨ k = 5 ∨ k = 6 ∨ k = 7 ∨ k = 8 := by omega
  rcases hk with rfl | rfl | rfl | rfl | rfl | rfl | rfl | rfl
  · exact lay1 A c v w B N a hA hv (by simpa [longB] using hl)
  · exact lay2 A c v w B N a hA hv hm
  · exact lay3 A c v w B N a hA hv (by simpa [longB] using hl)
  · exact lay4 A c v w B N a hA hv (by simpa [longB] using hl)
  · exact lay5 A c v w B N a hA hv (by simpa [longB] using hl)
  · exact lay6 A c v w B N a hA hv (by omega)
  · exact lay7 A c v w B N a hA hv (by simpa [longB] using hl)
  · exact lay8 A c v w B N a hA hv (by omega)
end Go.Proofs.YtanmepgplpijkaaDoor.Att
namespace Go.Proofs.YtanmepgplpijkaaDoor.Att
open Segm Rise Oct
def nrm (a : At) : At := ⟨a.has, a.origin, normS a.path, a.hop, a.med, a.pref, a.aas, a.aid, a.comms⟩
theorem normA_nrm (a : At) : normA (nrm a) = normA a := by
  unfold normA nrm
  dsimp only
  rw [normS_twice]
theorem nrm_zero : nrm zeroA = zeroA := rfl
theorem nrm_lay {a : At} {k : Nat} {v : List Nat} (hk : ¬ (k < 1 ∨ 8 < k)) : putHas (layR (nrm a) k v) (a.has + 2 ^ k) = nrm (layA a k v) := by
  unfold layA
  rw [if_neg hk]
  unfold putHas layR nrm
  dsimp only
  by_cases h2 : k = 2
  · rw [if_pos h2, if_pos h2]
  · rw [if_neg h2, if_neg h2]
theorem norm_len (p : List Piece) : (normS p).length ≤ bulk p := by
  induction hn : p.length generalizing p with
  | zero => rw [List.length_eq_zero_iff.1 hn]; exact Nat.zero_le _
  | succ n ih =>
    rcases List.eq_nil_or_concat p with rfl | ⟨f, s, rfl⟩
    · exact Nat.zero_le _
    · rw [List.concat_eq_append] at *
      have h1 := ih f (by simpa using hn)
      rw [normS_snoc, bulk_append]
      have h2 := normOne_len (normS f) s
      have e : bulk [s] = s.2.length + 1 := by simp [bulk]
      omega
theorem putsS_fit {m : Nat} (hm : 255 ≤ m) : ∀ (l : List Nat) (p : List Piece), FitS m p → FitS m (putsS p l)
  | [], _, h => h
  | n :: l, p, h => putsS_fit hm l (putS p n) (putS_fit n hm h)
theorem norm_fit (p : List Piece) (h : FitS 255 p) : FitS 255 (normS p) := by
  induction hn : p.length generalizing p with
  | zero => rw [List.length_eq_zero_iff.1 hn]; exact fun s hs => by cases hs
  | succ n ih =>
    rcases List.eq_nil_or_concat p with rfl | ⟨f, s, rfl⟩
    · exact fun s hs => by cases hs
    · rw [List.concat_eq_append] at *
      have h1 := ih f (fun s hs => h s (by simp [hs])) (by simpa using hn)
      rw [normS_snoc]
      unfold normOne
      split
      · exact putsS_fit (Nat.le_refl _) _ _ h1
      · split
        · intro s' hs'
          rcases List.mem_append.1 hs' with h3 | h3
          · exact h1 s' h3
          · rw [List.mem_singleton.1 h3]
            exact Nat.le_trans (setOf_len s.2) (h s (by simp))
        · exact h1
structure FineR (seen : List Nat) (a : At) : Prop where
  fine : Fine seen a
  bk : bulk a.path ≤ 4000
  fit : FitS 255 a.path
  cm : a.comms.length ≤ 400
theorem fineR_zero : FineR [] zeroA := ⟨fine_zero, by decide, (fun s hs => by cases hs), by decide⟩
theorem FineR.lay {seen : List Nat} {a : At} (h : FineR seen a) {f k : Nat} {v : List Nat} (hs : Small v) (hl : v.length ≤ 1600) (hk : k ∉ seen) (hsub : subOf f k v = 0) : FineR (k :: seen) (layA a k v) := by
  refine ⟨h.fine.lay hs (by omega) hk hsub, ?_, ?_, ?_⟩
  all_goals
    by_cases hu : k < 1 ∨ 8 < k
    · rw [show layA a k v = a by unfold layA; rw [if_pos hu]]
      first | exact h.bk | exact h.fit | exact h.cm
    · have ep : (layA a k v).path = if k = 2 then (pathIs v).getD [] else a.path := by unfold layA; rw [if_neg hu]
      have ec : (layA a k v).comms = if k = 8 then quads v else a.comms := by unfold layA; rw [if_neg hu]
      have hq : bulk ((pathIs v).getD []) ≤ 4000 ∧ FitS 255 ((pathIs v).getD []) := by
        cases hh : pathIs v with
        | none => exact ⟨Nat.zero_le _, fun s hs => by cases hs⟩
        | some p =>
          obtain ⟨h1, h2⟩ := pathIs_len hs hh
          exact ⟨by show bulk p ≤ 4000; rw [bulk_is]; omega, h2⟩
      first
        | (rw [ep]; split <;> first | exact hq.1 | exact h.bk)
        | (rw [ep]; split <;> first | exact hq.2 | exact h.fit)
        | (rw [ec]; split <;> first | (unfold quads; rw [quadsN_len]; omega) | exact h.cm)
theorem FineR.norm {seen : List Nat} {a : At} (h : FineR seen a) : bulk (nrm a).path ≤ 50000 ∧ FitS 1000 (nrm a).path ∧ (nrm a).comms.length ≤ 1000 := by
  have h1 := norm_len a.path
  have h2 := lens_norm a.path
  have h3 := h.bk
  refine ⟨?_, fun s hs => Nat.le_trans (norm_fit a.path h.fit s hs) (by decide), Nat.le_trans h.cm (by decide)⟩
  show bulk (normS a.path) ≤ 50000
  rw [bulk_is] at h1 h3 ⊢
  omega
theorem fillR_is {k : Nat} {v : List Nat} (hs : Small v) (hl : v.length ≤ 1600) : fillR k v = fillN k v := by
  unfold fillR fillN
  by_cases h1 : k = 1
  · rw [if_pos h1, if_pos h1]
  · rw [if_neg h1, if_neg h1]
    by_cases h2 : k = 2
    · rw [if_pos h2, if_pos h2]
      cases hp : pathIs v with
      | none => rfl
      | some p =>
        dsimp only
        obtain ⟨h3, _⟩ := pathIs_len hs hp
        have h4 := lens_norm p
        unfold waysP
        rw [decide_eq_true (show lens (normS p) ≤ 2000 by omega), decide_eq_true (show lens p ≤ 2000 by omega)]
    · rw [if_neg h2, if_neg h2]
def hdN (f : Nat) : Nat := if f / 16 % 2 = 1 then 4 else 3
def lenN (b : List Nat) (j : Nat) (hd : Nat) : Nat := val ((b.drop (j + 2)).take (hd - 2))
theorem drop_four {b : List Nat} {j : Nat} (h : j + 4 ≤ b.length) : ∃ n1 n0, b.drop (j + 2) = n1 :: n0 :: b.drop (j + 4) := by
  refine ⟨b[j + 2], b[j + 3], ?_⟩
  rw [List.drop_eq_getElem_cons (show j + 2 < b.length by omega), List.drop_eq_getElem_cons (show j + 2 + 1 < b.length by omega)]
theorem drop_three {b : List Nat} {j : Nat} (h : j + 3 ≤ b.length) : ∃ n0, b.drop (j + 2) = n0 :: b.drop (j + 3) := by
  refine ⟨b[j + 2], ?_⟩
  rw [List.drop_eq_getElem_cons (show j + 2 < b.length by omega)]
theorem item_at {b : List Nat} {j f k : Nat} (hs : Small b) (hf : b[j]? = some f) (hk : b[j + 1]? = some k) :
    (b.length < j + hdN f → itemOf (b.drop j) = none) ∧ (j + hdN f ≤ b.length → lenN b j (hdN f) < 65536 ∧
      (b.length < j + hdN f + lenN b j (hdN f) → itemOf (b.drop j) = none) ∧
      (j + hdN f + lenN b j (hdN f) ≤ b.length → itemOf (b.drop j) = some ⟨f, k, (b.drop (j + hdN f)).take (lenN b j (hdN f)), b.drop (j + hdN f + lenN b j (hdN f))⟩ ∧
        (b.drop j).take (hdN f + lenN b j (hdN f)) = itemB f k ((b.drop (j + hdN f)).take (lenN b j (hdN f))))) := by
  have hd := drop_two hf hk
  have hlt : j + 1 < b.length := (List.getElem?_eq_some_iff.1 hk).1
  rw [hd]
  unfold hdN
  by_cases hl : f / 16 % 2 = 1
  · rw [if_pos hl]
    constructor
    · intro h
      unfold itemOf
      dsimp only
      rw [if_pos hl]
      have hlen : (b.drop (j + 2)).length < 2 := by rw [List.length_drop]; omega
      match hq : b.drop (j + 2), hlen with
      | [], _ => rfl
      | [_], _ => rfl
    · intro h
      obtain ⟨n1, n0, e⟩ := drop_four h
      have s1 : n1 < 256 := (hs.drop (j + 2)) n1 (by rw [e]; simp)
      have s0 : n0 < 256 := (hs.drop (j + 2)) n0 (by rw [e]; simp)
      have ev : lenN b j 4 = n1 * 256 + n0 := by
        unfold lenN
        rw [e]
        show (0 * 256 + n1) * 256 + n0 = _
        omega
      rw [ev]
      have hlen : (b.drop (j + 4)).length = b.length - (j + 4) := List.length_drop
      refine ⟨by omega, fun h2 => ?_, fun h2 => ?_⟩
      · rw [e]
        unfold itemOf
        dsimp only
        rw [if_pos hl, if_neg (by omega)]
      · rw [e]
        constructor
        · unfold itemOf
          dsimp only
          rw [if_pos hl, if_pos (by omega), List.drop_drop]
        · unfold itemB
          rw [if_pos hl, List.length_take, Nat.min_eq_left (by omega), big2]
          rw [show 4 + (n1 * 256 + n0) = (n1 * 256 + n0) + 1 + 1 + 1 + 1 by omega]
          simp only [List.take_succ_cons, List.cons_append, List.nil_append]
          rw [show (n1 * 256 + n0) / 256 % 256 = n1 by omega, show (n1 * 256 + n0) % 256 = n0 by omega]
  · rw [if_neg hl]
    constructor
    · intro h
      unfold itemOf
      dsimp only
      rw [if_neg hl]
      have hlen : (b.drop (j + 2)).length < 1 := by rw [List.length_drop]; omega
      match hq : b.drop (j + 2), hlen with
      | [], _ => rfl
    · intro h
      obtain ⟨n0, e⟩ := drop_three h
      have s0 : n0 < 256 := (hs.drop (j + 2)) n0 (by rw [e]; simp)
      have ev : lenN b j 3 = n0 := by
        unfold lenN
        rw [e]
        show 0 * 256 + n0 = _
        omega
      rw [ev]
      have hlen : (b.drop (j + 3)).length = b.length - (j + 3) := List.length_drop
      refine ⟨by omega, fun h2 => ?_, fun h2 => ?_⟩
      · rw [e]
        unfold itemOf
        dsimp only
        rw [if_neg hl, if_neg (by omega)]
      · rw [e]
        constructor
        · unfold itemOf
          dsimp only
          rw [if_neg hl, if_pos (by omega), List.drop_drop]
        · unfold itemB
          rw [if_neg hl, List.length_take, Nat.min_eq_left (by omega)]
          rw [show 3 + n0 = n0 + 1 + 1 + 1 by omega]
          simp only [List.take_succ_cons]
theorem own_bit : ∀ f : Nat, f < 256 → (if f / 16 % 2 = 1 then f - 16 else f) / 32 % 2 = f / 32 % 2 := by decide +kernel
def o1N (f : Nat) : Nat := if f / 16 % 2 = 1 then f - 16 else f
theorem ownF_is {f k : Nat} (hf : f < 256) : ownF f k = if 7 ≤ k ∧ o1N f / 32 % 2 = 1 then o1N f - 32 else o1N f := by
  unfold ownF o1N
  rw [own_bit f hf]
  by_cases h : 7 ≤ k ∧ f / 32 % 2 = 1
  · rw [if_pos h, if_pos h]
  · rw [if_neg h, if_neg h]; omega
theorem o1N_lt {f : Nat} (hf : f < 256) : o1N f < 256 := by unfold o1N; split <;> omega
end Go.Proofs.YtanmepgplpijkaaDoor.Att
namespace Go.Proofs.YtanmepgplpijkaaDoor.Att
open Go.RowKit Mem Segm Oct Seg
structure Read8 (W : World) (B : Nat) (q : At) (m : No) (Ap : Option Addr) (cp : Nat) (Ac : Option Addr) (cc : Nat) (Ad : Option Addr) (cd : Nat) : Prop where
  b9 : Box9 W B 26 (.int .i64 q.has) (.int .i64 q.origin) (.slice Ap q.path.length cp) (.int .u32 q.hop) (.int .u32 q.med) (.int .u32 q.pref) (.int .u32 q.aas) (.int .u32 q.aid) (.slice Ac q.comms.length cc)
  b3 : Box3 W (B + 1) 34 (.int .i64 m.code) (.int .i64 m.sub) (.slice Ad m.data.length cd)
  at_ : Attrs W (.agg #[.int .i64 q.has, .int .i64 q.origin, .slice Ap q.path.length cp, .int .u32 q.hop, .int .u32 q.med, .int .u32 q.pref, .int .u32 q.aas, .int .u32 q.aid, .slice Ac q.comms.length cc]) q
  no : Note W (.agg #[.int .i64 m.code, .int .i64 m.sub, .slice Ad m.data.length cd]) m
theorem Read8.keep {W W' : World} {B : Nat} {q : At} {m : No} {Ap Ac Ad : Option Addr} {cp cc cd : Nat} (h : Read8 W B q m Ap cp Ac cc Ad cd) (hb : Below W.heap.size W W') : Read8 W' B q m Ap cp Ac cc Ad cd :=
  ⟨h.b9.keep hb, h.b3.keep hb, h.at_.keep hb, h.no.keep hb⟩
theorem read_boxes {x : World} {q : At} {m : No} {Ap Ac Ad : Option Addr} {cp cc cd : Nat} (hA : Hid (Attrs x (.agg #[.int .i64 q.has, .int .i64 q.origin, .slice Ap q.path.length cp, .int .u32 q.hop, .int .u32 q.med, .int .u32 q.pref, .int .u32 q.aas, .int .u32 q.aid, .slice Ac q.comms.length cc]) q)) (hN : Hid (Note x (.agg #[.int .i64 m.code, .int .i64 m.sub, .slice Ad m.data.length cd]) m)) :
    Read8 ((x.alloc (.cells #[.int .i64 q.has, .int .i64 q.origin, .slice Ap q.path.length cp, .int .u32 q.hop, .int .u32 q.med, .int .u32 q.pref, .int .u32 q.aas, .int .u32 q.aid, .slice Ac q.comms.length cc] 26)).alloc (.cells #[.int .i64 m.code, .int .i64 m.sub, .slice Ad m.data.length cd] 34)) x.heap.size q m Ap cp Ac cc Ad cd ∧
    Below x.heap.size x ((x.alloc (.cells #[.int .i64 q.has, .int .i64 q.origin, .slice Ap q.path.length cp, .int .u32 q.hop, .int .u32 q.med, .int .u32 q.pref, .int .u32 q.aas, .int .u32 q.aid, .slice Ac q.comms.length cc] 26)).alloc (.cells #[.int .i64 m.code, .int .i64 m.sub, .slice Ad m.data.length cd] 34)) := by
  have k1 : Below x.heap.size x (x.alloc (.cells #[.int .i64 q.has, .int .i64 q.origin, .slice Ap q.path.length cp, .int .u32 q.hop, .int .u32 q.med, .int .u32 q.pref, .int .u32 q.aas, .int .u32 q.aid, .slice Ac q.comms.length cc] 26)) := (Below.refl _ _).alloc (Nat.le_refl _) _
  have h9 := Box9.new x 26 (.int .i64 q.has) (.int .i64 q.origin) (.slice Ap q.path.length cp) (.int .u32 q.hop) (.int .u32 q.med) (.int .u32 q.pref) (.int .u32 q.aas) (.int .u32 q.aid) (.slice Ac q.comms.length cc)
  have e1 : (x.alloc (.cells #[.int .i64 q.has, .int .i64 q.origin, .slice Ap q.path.length cp, .int .u32 q.hop, .int .u32 q.med, .int .u32 q.pref, .int .u32 q.aas, .int .u32 q.aid, .slice Ac q.comms.length cc] 26)).heap.size = x.heap.size + 1 := by simp
  obtain ⟨y, hy⟩ : ∃ y, y = x.alloc (.cells #[.int .i64 q.has, .int .i64 q.origin, .slice Ap q.path.length cp, .int .u32 q.hop, .int .u32 q.med, .int .u32 q.pref, .int .u32 q.aas, .int .u32 q.aid, .slice Ac q.comms.length cc] 26) := ⟨_, rfl⟩
  rw [← hy] at k1 h9 e1 ⊢
  have k2 : Below y.heap.size y (y.alloc (.cells #[.int .i64 m.code, .int .i64 m.sub, .slice Ad m.data.length cd] 34)) := (Below.refl _ _).alloc (Nat.le_refl _) _
  have h3 := Box3.new y 34 (.int .i64 m.code) (.int .i64 m.sub) (.slice Ad m.data.length cd)
  rw [e1] at h3
  exact ⟨⟨h9.keep k2, h3, (hA.out.keep k1).keep k2, (hN.out.keep k1).keep k2⟩, k1.trans (k2.mono k1.size)⟩
end Go.Proofs.YtanmepgplpijkaaDoor.Att
