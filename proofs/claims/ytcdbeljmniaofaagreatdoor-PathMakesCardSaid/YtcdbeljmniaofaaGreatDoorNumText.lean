/- The texts of numbers: asn's. -/
import Derived.Test.YtcdbeljmniaofaaGreatDoorStr
import Derived.WalkLawsBesides
import Derived.WalkSpells
import Derived.Lib.Hide
import Derived.Test.YtcdbeljmniaofaaGreatDoorSetRef
import Derived.Test.YtcdbeljmniaofaaGreatDoorShelf
import Derived.Laws.BytesArg
import Derived.Outline
namespace Go.Proofs.YtcdbeljmniaofaaGreatDoor.Nums
open Go.RowKit Mem Pfx Dec

theorem joinS_snoc (ws : List (List UInt8)) (x : List UInt8) : joinS (ws ++ [x]) = if ws = [] then x else joinS ws ++ 32 :: x := by
  induction ws with
  | nil => rfl
  | cons a ws ih =>
    cases ws with
    | nil => rfl
    | cons b ws =>
      rw [if_neg (by simp)] at ih ⊢
      rw [List.cons_append, joinS_cons a (by simp), ih, joinS_cons a (by simp)]
      simp
def textP (l : List Nat) (k : Nat) : List UInt8 := joinS ((l.take k).map dec)
theorem textP_zero (l : List Nat) : textP l 0 = [] := by simp [textP, joinS]
theorem textP_one {l : List Nat} {x : Nat} (h : l[0]? = some x) : textP l 1 = dec x := by
  unfold textP
  rw [List.take_add_one, h]; rfl
theorem textP_succ {l : List Nat} {k x : Nat} (hk : 0 < k) (h : l[k]? = some x) : textP l (k + 1) = textP l k ++ [32] ++ dec x := by
  have hlt := (List.getElem?_eq_some_iff.1 h).1
  unfold textP
  rw [List.take_add_one, h, List.map_append]
  show joinS (_ ++ [dec x]) = _
  rw [joinS_snoc, if_neg (fun e => by
    simp only [List.map_eq_nil_iff, List.take_eq_nil_iff] at e
    rcases e with e | e
    · omega
    · rw [e] at hlt; simp at hlt)]
  simp
theorem textP_len {l : List Nat} (hl : ∀ n ∈ l, n < 4294967296) (k : Nat) (hk : k ≤ l.length) : (textP l k).length ≤ 11 * k := by
  induction k with
  | zero => rw [textP_zero]; simp
  | succ k ih =>
    have hx := List.getElem?_eq_getElem (show k < l.length by omega)
    have hd := dec_len l[k] 10 (by omega) (Nat.lt_of_lt_of_le (hl _ (List.getElem_mem _)) (by decide))
    by_cases h0 : 0 < k
    · rw [textP_succ h0 hx]
      have := ih (by omega)
      simp; omega
    · obtain rfl : k = 0 := by omega
      rw [textP_one hx]; omega
theorem textP_ne {l : List Nat} {k : Nat} (hk : 0 < k) (hl : k ≤ l.length) : textP l k ≠ [] := by
  obtain ⟨j, rfl⟩ : ∃ j, k = j + 1 := ⟨k - 1, by omega⟩
  have hx := List.getElem?_eq_getElem (show j < l.length by omega)
  by_cases h0 : 0 < j
  · rw [textP_succ h0 hx]; simp
  · obtain rfl : j = 0 := by omega
    rw [textP_one hx]; exact dec_ne _
theorem textP_all {l : List Nat} (h : l ≠ []) : textP l l.length = textL l := by
  unfold textP textL
  rw [List.take_length, if_neg h]

theorem slice_inj {A A' : Option Addr} {n n' c c' : Nat} (h : Value.slice A n c = Value.slice A' n' c') : A = A' ∧ n = n' ∧ c = c' := by
  injection h with h1 h2 h3
  exact ⟨h1, h2, h3⟩
/-- Bytes of the call's own, made a string. -/
theorem text_of_row {w : World} {base : Nat} {A : Option Addr} {n c : Nat} {l : List UInt8} (h : w.ownsRow base 5 1 (.slice A n c) n (Lib.byteCells l)) : (convert 82 9 (.slice A n c)).run Tryz.prog w = .ok (.string (strOf l)) w := by
  obtain ⟨hlen, A', c', e, hn, hc, hr⟩ := Row.of_own h
  obtain ⟨rfl, -, rfl⟩ := slice_inj e
  rw [Lib.byteCells_length, Nat.mul_one] at hlen
  rcases Nat.eq_zero_or_pos n with h0 | h0
  · subst h0
    obtain rfl : l = [] := List.eq_nil_of_length_eq_zero hlen
    cases A with
    | none => rw [run_convert_bytes_nil w _ _ Tryz.underlying82 Tryz.underlying5 0 c _ Tryz.underlying9]; rfl
    | some ad =>
      rcases h.2 with ⟨h1, _⟩ | ⟨g, cap, cur, h1, _⟩
      · cases h1
      · obtain rfl := Option.some.inj (slice_inj h1).1
        rw [run_convert_bytes_arg w _ _ Tryz.underlying82 Tryz.underlying5 g 0 0 c [] rfl (fun i hi => absurd hi (Nat.not_lt_zero _)) _ Tryz.underlying9]; rfl
  · obtain ⟨b, off, rfl, _, hcell⟩ := hr h0
    rw [run_convert_bytes_arg w _ _ Tryz.underlying82 Tryz.underlying5 b off n c (l.map fun x => (x.toNat : Int)) (by simpa using hlen) (fun i hi => by
      have hi2 : i < l.length := by omega
      have := hcell i (.int .u8 l[i].toNat) (by unfold Lib.byteCells; rw [List.getElem?_map, List.getElem?_eq_getElem hi2]; rfl)
      rw [this]
      simp [List.getD, hi2]) _ Tryz.underlying9]
    have e2 : ((fun n : Int => UInt8.ofNat n.toNat) ∘ fun x : UInt8 => (x.toNat : Int)) = id := by funext x; simp
    congr 2
    unfold strOfNums strOf
    rw [List.map_map, e2, List.map_id]

/-- What is asked of the table of powers of ten: it is wanted for numbers from 100 on alone. -/
def TabOr (l : List Nat) (w : World) : Prop := (∀ n ∈ l, n < 100) ∨ Lib.TabIs Tryz.prog w "internal/strconv.uint64pow10" .u64 Lib.pow10Tab
theorem gPow : Tryz.prog.globalNamed "internal/strconv.uint64pow10" = some 1 := by kernel_rfl
theorem tab_below {w w' : World} (h : Lib.TabIs Tryz.prog w "internal/strconv.uint64pow10" .u64 Lib.pow10Tab) (hb : Below w.heap.size w w') : Lib.TabIs Tryz.prog w' "internal/strconv.uint64pow10" .u64 Lib.pow10Tab := by
  have hc := h.cell gPow 0 (by rw [Lib.pow10Tab_length]; decide)
  exact var?_below hb gPow (block_lt_of_cell hc) h
theorem TabOr.keep {l : List Nat} {w w' : World} (h : TabOr l w) (hb : Below w.heap.size w w') : TabOr l w' := h.imp id fun h => tab_below h hb

set_option maxRecDepth 100000 in
theorem appendInt_any (B n u : Nat) (hu : u < 4294967296) (A : Option Addr) (c : Nat) (xs : List Value) (w : World) (hown : w.ownsRow B 5 1 (.slice A n c) n xs) (hB : B ≤ w.heap.size) (hn : n ≤ 1000000) (hT : u < 100 ∨ Lib.TabIs Tryz.prog w "internal/strconv.uint64pow10" .u64 Lib.pow10Tab) :
    Calls Tryz.prog 49 #[.slice A n c, .int .u64 u, .int .i64 10] w fun e w' => (∃ A' c', e = .returned (.slice A' (n + (dec u).length) c') ∧ w'.ownsRow B 5 1 (.slice A' (n + (dec u).length) c') (n + (dec u).length) (xs ++ Lib.byteCells (dec u))) ∧ Below B w w' := by
  have C : Calls Tryz.prog 69 #[.slice A n c, .int .u64 u, .int .i64 10] w fun e w' => (∃ A' c', e = .returned (.slice A' (n + (dec u).length) c') ∧ w'.ownsRow B 5 1 (.slice A' (n + (dec u).length) c') (n + (dec u).length) (xs ++ Lib.byteCells (dec u))) ∧ Below B w w' := by
    by_cases h : u < 100
    · refine (Tryz.internal_strconv_AppendUint_10_small B n u h _ xs w hown hB (by omega)).mono fun e w' ⟨v, he, h1, h2, _⟩ => ?_
      obtain ⟨A', c', rfl⟩ := own_form h1
      exact ⟨⟨A', c', he, h1⟩, h2⟩
    · refine (Tryz.internal_strconv_AppendUint_10_big B n u (by omega) (by omega) _ xs w hown hB (by omega) (hT.resolve_left h)).mono fun e w' ⟨v, he, h1, h2, _⟩ => ?_
      obtain ⟨A', c', rfl⟩ := own_form h1
      exact ⟨⟨A', c', he, h1⟩, h2⟩
  have CC := Go.Lib.hid C
  clear C hown hT
  go_enter Tryz.func49, Tryz.ntmps49
  go_wp2_with (go_at_call 69; refine (CC.out).mono ?_; rintro e w1 ⟨⟨A1, c1, rfl, h1⟩, h2⟩)
  go_ret
  exact ⟨⟨A1, c1, rfl, h1⟩, h2⟩

theorem elem8 : ∃ i, IsElem Tryz.prog 82 5 1 1 i (.int .u8 0) := IsElem.mk_ Tryz.underlying82 (by kernel_rfl) rfl (by decide)
theorem one_u8 (x : Int) : ∀ u ∈ [Value.int .u8 x], u.oneCell' = true := fun u hu => by
  obtain rfl := List.mem_singleton.1 hu
  rfl

set_option maxHeartbeats 2000000 in
theorem text_any (v : Value) (l : List Nat) (w : World) (hv : U32s w v l) (hlen : l.length ≤ 1000) (hT : TabOr l w) :
    Calls Tryz.prog 35 #[v] w (Tells (.string (strOf (textL l))) w) := by
  have hl := Go.Lib.hid hv.2
  have HV := Go.Lib.hid hv
  have HT := Go.Lib.hid hT
  obtain ⟨i, E⟩ := elem8
  obtain ⟨A, c, rfl, hlc, hc, -, -⟩ := hv.open_
  clear hv hT
  rcases Nat.eq_zero_or_pos l.length with h0 | h0
  · have E0 := Go.Lib.hid (show l = [] from List.eq_nil_of_length_eq_zero h0)
    rw [h0]
    clear h0 hlc hlen
    go_enter Tryz.func35, Tryz.ntmps35
    go_wp2
    go_ret
    exact ⟨by rw [E0.out]; rfl, Below.refl _ _⟩
  · have hz0 : (l.length : Int) ≠ 0 := by omega
    have hz : ((l.length : Int) == 0) = false := by simpa using hz0
    clear hz0
    go_enter Tryz.func35, Tryz.ntmps35
    go_wp2
    go_loopw [3, 4, 5, 11] (fun s _ _ i wr => ∃ (k : Nat) (A' : Option Addr) (c' : Nat), k ≤ l.length ∧ i = .int .i64 k ∧ s = .slice A' (textP l k).length c' ∧ wr.ownsRow w.heap.size 5 1 (.slice A' (textP l k).length c') (textP l k).length (Lib.byteCells (textP l k)) ∧ Below w.heap.size w wr) (fun _ _ _ i _ => l.length - (intOf i).toNat)
    case atStart => exact ⟨0, none, 0, Nat.zero_le _, rfl, by rw [textP_zero]; rfl, by rw [textP_zero]; exact World.ownsRow_nil _ _ _ _, Below.refl _ _⟩
    case round =>
      obtain ⟨k, A', c', hk, rfl, rfl, hown, hbw⟩ := hrel
      have htl := textP_len hl.out k hk
      by_cases hlt : k < l.length
      · obtain ⟨b, off, x, rfl, hb, hx, hx32, hcell⟩ := ((HV.out).keep hbw).at_ hlt
        have hTx : ∀ w1, Below w.heap.size w w1 → x < 100 ∨ Lib.TabIs Tryz.prog w1 "internal/strconv.uint64pow10" .u64 Lib.pow10Tab := fun w1 h1 => ((HT.out).keep h1).imp (fun h => h x (List.mem_of_getElem? hx)) id
        by_cases hk0 : 0 < k
        · have HE := Go.Lib.hid (textP_succ hk0 hx)
          have C := Go.Lib.hid (fun (A1 : Option Addr) (c1 : Nat) (w1 : World) (h1 : w1.ownsRow w.heap.size 5 1 (.slice A1 ((textP l k).length + 1) c1) ((textP l k).length + 1) (Lib.byteCells (textP l k) ++ [.int .u8 32])) (hb1 : Below w.heap.size wr w1) => appendInt_any w.heap.size ((textP l k).length + 1) x hx32 A1 c1 _ w1 h1 (Nat.le_trans hbw.size hb1.size) (by omega) (hTx _ (hbw.trans hb1)))
          clear hx hTx
          go_wp2_with (first | (at_builtin; refine wpList_append_row rfl (.tmp 18) (.tmp 19) rfl E w.heap.size _ _ _ rfl (hown.alloc _) _ 1 [.int .u8 32] rfl (Row.one _ _ _) (one_u8 _) (by unfold maxLen; omega) (by omega) (Nat.le_trans hbw.size (by simp)) ((textP l k).length + 1) rfl ?_; intro A1 c1 w1 hown1 hg1 hat1 hb1; have H1 := Go.Lib.hid hown1; have HB1 := Go.Lib.hid ((Go.RowKit.Below.alloc (Go.RowKit.Below.refl w.heap.size wr) hbw.size (.cells #[.int .u8 32] 5)).trans hb1); clear hown1 hb1) | (go_at_call 49; refine (C.out _ _ _ H1.out HB1.out).mono ?_; rintro e w2 ⟨⟨A2, c2, rfl, h2⟩, hb2⟩; have H2 := Go.Lib.hid h2; clear h2))
          go_roundw
          case rel => exact ⟨k + 1, A2, c2, by omega, by go_num, by rw [HE.out]; simp only [List.length_append, List.length_cons, List.length_nil, Nat.zero_add], by
            have h := H2.out
            rw [HE.out]
            simp only [List.length_append, List.length_cons, List.length_nil, Lib.byteCells, List.map_append, List.map_cons, List.map_nil, Nat.zero_add] at h ⊢
            exact h, hbw.trans (HB1.out.trans hb2)⟩
          case measure => simp [intOf]; omega
        · obtain rfl : k = 0 := by omega
          rw [Nat.add_zero] at hcell
          have HE := Go.Lib.hid (textP_one hx)
          have HZ := Go.Lib.hid (textP_zero l)
          have C := Go.Lib.hid (appendInt_any w.heap.size (textP l 0).length x hx32 A' c' _ wr hown hbw.size (by omega) (hTx _ hbw))
          clear hx hTx
          go_wp2_with (go_at_call 49; refine (C.out).mono ?_; rintro e w2 ⟨⟨A2, c2, rfl, h2⟩, hb2⟩; have H2 := Go.Lib.hid h2; clear h2)
          go_roundw
          case rel => exact ⟨1, A2, c2, by omega, by go_num, by rw [HE.out, HZ.out]; simp, by
            have h := H2.out
            rw [HZ.out] at h
            rw [HE.out]
            simpa [Lib.byteCells] using h, hbw.trans hb2⟩
          case measure => simp [intOf]; omega
      · have hk2 : k = l.length := by omega
        have HE := Go.Lib.hid (show textP l k = textL l by rw [hk2]; exact textP_all (List.length_pos_iff.1 h0))
        have hconv := text_of_row hown
        clear hk2
        go_wp2
        go_ret
        exact ⟨by rw [HE.out]; rfl, hbw⟩
end Go.Proofs.YtcdbeljmniaofaaGreatDoor.Nums
