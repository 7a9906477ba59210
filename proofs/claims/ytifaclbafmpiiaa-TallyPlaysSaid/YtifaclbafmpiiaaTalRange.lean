/- A range over a tally's map, whatever its order; what Sum tells. -/
import Derived.Test.YtifaclbafmpiiaaTalHold
import Derived.Maps.RangeWalk
import Derived.LoopN
import Derived.Laws.IdiomRangeMap
import Derived.Test.YtifaclbafmpiiaaTalMath
namespace Go.Proofs.Ytifaclbafmpiiaa.Tal
open Go.RowKit Mem Go.Maps

section
variable (w : World) {ops : Array Oper} {rest : List Oper} {o : Oper} {a : Go.Act} {Q : Exit → Go.Act → World → Prop}
/-- The step of a range over a tally's map: nothing is left, or a row has come that had not. -/
theorem wpList_next_T (hg : o.guard = none) (it : Operand) (hop : o.op = Op.next it false) (b r n : Nat) (l : List Cnt) (left : Lit → Bool) (cnt : Nat)
    (hit : a.eval it = .pointer (some ⟨r, 0, none⟩)) (h : w.ranges Try.prog 23 cntR b r n (dat l) left cnt)
    (hDone : cnt = 0 → (∀ kl, left kl = false) → wpList Try.prog ops Q rest (a.put o.dst (.tuple #[.bool false])) w)
    (hMore : ∀ (i : Nat) (x : Cnt) (w' : World) (cnt' : Nat), l[i]? = some x → left (.int .u32 x.key) = true → w'.ranges Try.prog 23 cntR b r n (dat l) (fun z => left z && !z.sameKey (.int .u32 x.key)) cnt' → cnt' < cnt →
      w.grownBy w' (some r) → w'.heap.size = w.heap.size → (Instr.entry (.pointer (some ⟨r, 0, none⟩))).run Try.prog w' = .ok (.tuple #[.int .u32 x.key, .agg #[.int .i64 x.up, .int .i64 x.down]]) w' →
      wpList Try.prog ops Q rest (a.put o.dst (.tuple #[.bool true, .int .u32 x.key, .agg #[.int .i64 x.up, .int .i64 x.down]])) w') :
    wpList Try.prog ops Q (o :: rest) a w :=
  wpList_next_ranges w hg it hop 23 law32 cntR (Value.int .u32) (fun c : Int × Int => Value.agg #[.int .i64 c.1, .int .i64 c.2])
    (fun key kl hkey => by obtain ⟨x, rfl, _⟩ := Maps.keyOf_int_inv Try.underlying23 hkey; exact ⟨x, rfl⟩)
    (fun v y hv => by obtain ⟨u, d, rfl, _⟩ := cntR_inv hv; exact ⟨(u, d), rfl⟩)
    b r n (dat l) left cnt hit h hDone (fun x c kl y w' cnt' hkey hlk hv hat hrg hlt hgr hsz hen => by
      obtain ⟨x', ex, rfl, hwx⟩ := Maps.keyOf_int_inv Try.underlying23 hkey
      cases ex
      have hb : 0 ≤ x := by simp [Lit.wf, IntKind.min, IntKind.max, IntKind.signed, IntKind.bits] at hwx; omega
      obtain ⟨k, rfl⟩ := Int.eq_ofNat_of_zero_le hb
      obtain ⟨u, d, ev, ey⟩ := cntR_inv hv
      have hhas := Maps.has_true_of_atKey hat
      rw [has_dat] at hhas
      obtain ⟨i, hi⟩ := Option.isSome_iff_exists.1 hhas
      obtain ⟨r0, hr, hrk⟩ := idx_at hi
      have h1 := hat (cntD 0 0)
      rw [at_dat, of_idx _ hi hr, of_idx _ hi hr, ey] at h1
      obtain ⟨e1, e2⟩ := cntD_inj h1
      have ec : (Value.agg #[.int .i64 c.1, .int .i64 c.2] : Value) = .agg #[.int .i64 r0.up, .int .i64 r0.down] := by rw [ev, e1, e2]
      rw [ec] at hen ⊢
      subst hrk
      exact hMore i r0 w' cnt' hr hlk hrg hlt hgr hsz hen)
end

/-- The rows that have come. -/
def cameS (l : List Cnt) (left : Lit → Bool) : List Cnt := l.filter fun r => !left (.int .u32 r.key)
theorem came_start (l : List Cnt) : cameS l (Maps.has (dat l)) = [] := by
  unfold cameS
  rw [List.filter_eq_nil_iff]
  intro r hr
  have h : Maps.has (dat l) (.int .u32 r.key) = true := by
    rw [has_dat]
    unfold idx
    rw [List.findIdx?_isSome]
    exact List.any_eq_true.2 ⟨r, hr, by simp⟩
  simp [h]
theorem came_end {l : List Cnt} {left : Lit → Bool} (h : ∀ kl, left kl = false) : cameS l left = l := by
  unfold cameS
  rw [List.filter_eq_self]
  intro r _
  simp [h]
theorem came_step : ∀ {l : List Cnt} {i : Nat} {x : Cnt} {left : Lit → Bool}, Sorted l → l[i]? = some x → left (.int .u32 x.key) = true →
    (cameS l (fun z => left z && !z.sameKey (.int .u32 x.key))).Perm (cameS l left ++ [x])
  | [], i, x, left, _, h, _ => by simp at h
  | y :: l, 0, x, left, hs, h, hl => by
    obtain rfl : y = x := by simpa using h
    obtain ⟨h1, _⟩ := sorted_cons.1 hs
    have e1 : cameS (y :: l) left = cameS l left := List.filter_cons_of_neg (by simp [hl])
    have e2 : cameS (y :: l) (fun z => left z && !z.sameKey (.int .u32 y.key)) = y :: cameS l (fun z => left z && !z.sameKey (.int .u32 y.key)) := List.filter_cons_of_pos (by simp [same_key])
    have e3 : cameS l (fun z => left z && !z.sameKey (.int .u32 y.key)) = cameS l left := by
      unfold cameS
      apply List.filter_congr
      intro r hr
      have := h1 r hr
      have hne : (r.key == y.key) = false := by simp; omega
      simp only [same_key, hne, Bool.not_false, Bool.and_true]
    rw [e1, e2, e3]
    exact (List.perm_append_singleton y (cameS l left)).symm
  | y :: l, i + 1, x, left, hs, h, hl => by
    obtain ⟨h1, h2⟩ := sorted_cons.1 hs
    have hx : l[i]? = some x := by simpa using h
    have ih := came_step h2 hx hl
    have hlt := h1 x (List.mem_of_getElem? hx)
    have hne : (y.key == x.key) = false := by simp; omega
    have e0 : (left (.int .u32 y.key) && !(Lit.int .u32 (y.key : Int)).sameKey (.int .u32 x.key)) = left (.int .u32 y.key) := by rw [same_key, hne]; simp
    by_cases hy : left (.int .u32 y.key) = true
    · have e1 : cameS (y :: l) left = cameS l left := List.filter_cons_of_neg (by simp [hy])
      have e2 : cameS (y :: l) (fun z => left z && !z.sameKey (.int .u32 x.key)) = cameS l (fun z => left z && !z.sameKey (.int .u32 x.key)) := List.filter_cons_of_neg (by simp only [e0]; simp [hy])
      rw [e1, e2]; exact ih
    · have e1 : cameS (y :: l) left = y :: cameS l left := List.filter_cons_of_pos (by simp [hy])
      have e2 : cameS (y :: l) (fun z => left z && !z.sameKey (.int .u32 x.key)) = y :: cameS l (fun z => left z && !z.sameKey (.int .u32 x.key)) := List.filter_cons_of_pos (by simp only [e0]; simp [hy])
      rw [e1, e2]; exact ih.cons y
theorem sum_perm {g : Cnt → Nat} {l m : List Cnt} (h : l.Perm m) : sumG g l = sumG g m := (h.map g).sum_nat
theorem sum_came {g : Cnt → Nat} {l : List Cnt} {i : Nat} {x : Cnt} {left : Lit → Bool} (hs : Sorted l) (hx : l[i]? = some x) (hl : left (.int .u32 x.key) = true) :
    sumG g (cameS l (fun z => left z && !z.sameKey (.int .u32 x.key))) = sumG g (cameS l left) + g x := by
  rw [sum_perm (came_step hs hx hl)]
  simp [sumG]
theorem sum_le {g : Cnt → Nat} {m : Nat} : ∀ {l : List Cnt} (_ : ∀ r ∈ l, g r ≤ m), sumG g l ≤ l.length * m
  | [], _ => by simp [sumG]
  | x :: l, h => by
    have h1 := h x (List.mem_cons_self ..)
    have ih := sum_le (l := l) fun r hr => h r (List.mem_cons_of_mem _ hr)
    have e : sumG g (x :: l) = g x + sumG g l := by simp [sumG]
    rw [e, List.length_cons, Nat.add_mul]; omega
theorem came_le {g : Cnt → Nat} {m : Nat} {l : List Cnt} {left : Lit → Bool} (h : ∀ r ∈ l, g r ≤ m) : sumG g (cameS l left) ≤ l.length * m :=
  Nat.le_trans (sum_le fun r hr => h r (List.mem_filter.1 hr).1) (Nat.mul_le_mul_right _ (List.length_filter_le _ _))

set_option maxRecDepth 100000 in
set_option maxHeartbeats 2000000 in
theorem sum_any (v : Value) (l : List Cnt) (F : Nat → Prop) (w : World) (hT : T w v l F) :
    Calls Try.prog 18 #[v] w (Tells (.tuple #[.int .i64 (sumG Cnt.up l), .int .i64 (sumG Cnt.down l)]) w) := by
  obtain ⟨hgood, b, m, rfl, hb, h⟩ := hT
  have c0 := cell_of hb
  have hlt : b < w.heap.size := (Array.getElem?_eq_some_iff.1 hb).1
  rcases h with ⟨rfl, rfl, rfl⟩ | ⟨bm, rfl, hne, hown, rfl⟩
  · have hr := run_range_nilMap (P := Try.prog) w _ _ _ Try.underlying58
    have hn := fun ty => run_next_nilMap (P := Try.prog) w ty 0 0 #[]
    have HB := Go.Lib.hid (show Below w.heap.size w (w.alloc (.mapIter none 0 #[] 0)) from (Below.refl _ w).alloc (Nat.le_refl _) _)
    clear hb hgood
    go_enter Try.func18, Try.ntmps18
    go_wp2
    refine wp_loop_rounds 1 ?_
    rw [rounds_succ]
    go_wp2
    go_ret2
    exact ⟨rfl, HB.out⟩
  · have hu := fun (left : Lit → Bool) => came_le (g := Cnt.up) (left := left) (fun r hr => (hgood.2.2.1 r hr).1)
    have hd := fun (left : Lit → Bool) => came_le (g := Cnt.down) (left := left) (fun r hr => (hgood.2.2.1 r hr).2)
    have hl10 := hgood.2.1
    have HS := Go.Lib.hid hgood.1
    have HU := Go.Lib.hid (fun (left : Lit → Bool) => show sumG Cnt.up (cameS l left) ≤ 5497558138880000 from Nat.le_trans (hu left) (by omega))
    have HD := Go.Lib.hid (fun (left : Lit → Bool) => show sumG Cnt.down (cameS l left) ≤ 5497558138880000 from Nat.le_trans (hd left) (by omega))
    clear hb hu hd hl10 hgood
    have HO := Go.Lib.hid hown
    clear hown
    go_enter Try.func18, Try.ntmps18
    go_wp2_with (at_range; refine wpList_range_own _ rfl _ 58 rfl 23 62 law32 Try.underlying58 cntR bm l.length (dat l) rfl HO.out ?_; intro w0 hrg0 hg0 hs0)
    go_frame
    go_loopw [2, 3] (fun v2 v3 wr => ∃ (left : Lit → Bool) (cnt : Nat), wr.ranges Try.prog 23 cntR bm w.heap.size l.length (dat l) left cnt ∧ v2 = .int .i64 (sumG Cnt.up (cameS l left)) ∧ v3 = .int .i64 (sumG Cnt.down (cameS l left)) ∧ Below w.heap.size w wr)
      (fun _ _ wr => wr.rangeLeft bm w.heap.size)
    case atStart => exact ⟨_, _, hrg0, by rw [came_start]; rfl, by rw [came_start]; rfl, (Below.refl _ _).grown hg0 (Nat.le_refl _) (fun j hj => by cases hj)⟩
    case round =>
      obtain ⟨left, cnt, hrg, rfl, rfl, hnx⟩ := hrel
      go_wp2_with (at_next; refine wpList_next_T _ rfl _ rfl bm w.heap.size l.length l _ _ rfl hrg ?_ ?_)
      · intro _ hl0
        rw [came_end hl0]
        go_wp2
        go_ret2
        exact ⟨rfl, hnx⟩
      · intro i x w1 cnt1 hx hlx hrg1 hlt1 hg1 hs1 hen
        have eu := sum_came (g := Cnt.up) HS.out hx hlx
        have ed := sum_came (g := Cnt.down) HS.out hx hlx
        have bu := HU.out (fun z => left z && !z.sameKey (.int .u32 x.key))
        have bd := HD.out (fun z => left z && !z.sameKey (.int .u32 x.key))
        obtain ⟨U1, hU1⟩ : ∃ U1, U1 = sumG Cnt.up (cameS l (fun z => left z && !z.sameKey (.int .u32 x.key))) := ⟨_, rfl⟩
        obtain ⟨D1, hD1⟩ : ∃ D1, D1 = sumG Cnt.down (cameS l (fun z => left z && !z.sameKey (.int .u32 x.key))) := ⟨_, rfl⟩
        rw [← hU1] at eu bu
        rw [← hD1] at ed bd
        generalize sumG Cnt.up (cameS l left) = U at eu ⊢
        generalize sumG Cnt.down (cameS l left) = D at ed ⊢
        have x0 : IntKind.i64.wrap ((U : Int) + (x.up : Int)) = (U1 : Int) := by rw [wrap_id] <;> omega
        have x1 : IntKind.i64.wrap ((D : Int) + (x.down : Int)) = (D1 : Int) := by rw [wrap_id] <;> omega
        have HR := Go.Lib.hid hrg1
        have hb1 := hnx.grown hg1 hnx.size (fun j hj => by cases hj; exact Nat.le_refl _)
        have HN := Go.Lib.hid hb1
        have HM := Go.Lib.hid (show cnt1 < wr.rangeLeft bm w.heap.size by rw [hrg.left_eq]; exact hlt1)
        clear eu ed bu bd hs1 hg1 hrg1 hrg hnx hb1 hx hlx
        go_wp2
        go_roundw
        case rel => exact ⟨_, cnt1, HR.out.alloc _, by rw [← hU1], by rw [← hD1], HN.out.alloc HN.out.size _⟩
        case measure => rw [(HR.out.alloc _).left_eq]; exact HM.out
end Go.Proofs.Ytifaclbafmpiiaa.Tal
