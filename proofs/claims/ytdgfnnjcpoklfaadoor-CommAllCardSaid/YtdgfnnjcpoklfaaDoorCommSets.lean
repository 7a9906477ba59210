/- comm's Texts; the reference's Texts and Rising. -/
import Derived.Test.YtdgfnnjcpoklfaaDoorCommTextsWalk
import Derived.Test.YtdgfnnjcpoklfaaDoorStrRow
import Derived.Test.YtdgfnnjcpoklfaaDoorSetSame
namespace Go.Proofs.YtdgfnnjcpoklfaaDoor.Com
open Go.RowKit Go.Sort Mem Rise Pfx Dec Nums

/-- The texts of the first k. -/
def ctP (l : List Nat) (k : Nat) : List UInt8 := joinS ((l.take k).map ctext)
theorem ctP_zero (l : List Nat) : ctP l 0 = [] := by simp [ctP, joinS]
theorem ctP_one {l : List Nat} {x : Nat} (h : l[0]? = some x) : ctP l 1 = ctext x := by
  unfold ctP
  rw [List.take_add_one, h]; rfl
theorem ctP_succ {l : List Nat} {k x : Nat} (hk : 0 < k) (h : l[k]? = some x) : ctP l (k + 1) = ctP l k ++ [32] ++ ctext x := by
  have hlt := (List.getElem?_eq_some_iff.1 h).1
  unfold ctP
  rw [List.take_add_one, h, List.map_append]
  show joinS (_ ++ [ctext x]) = _
  rw [joinS_snoc, if_neg (fun e => by
    simp only [List.map_eq_nil_iff, List.take_eq_nil_iff] at e
    rcases e with e | e
    · omega
    · rw [e] at hlt; simp at hlt)]
  simp
theorem ctP_len {l : List Nat} (hl : ∀ n ∈ l, n < 4294967296) (k : Nat) (hk : k ≤ l.length) : (ctP l k).length ≤ 20 * k := by
  induction k with
  | zero => rw [ctP_zero]; simp
  | succ k ih =>
    have hx := List.getElem?_eq_getElem (show k < l.length by omega)
    have hd := ctext_len (hl _ (List.getElem_mem (show k < l.length by omega)))
    by_cases h0 : 0 < k
    · rw [ctP_succ h0 hx]
      have := ih (by omega)
      simp; omega
    · obtain rfl : k = 0 := by omega
      rw [ctP_one hx]; omega
theorem ctP_ne {l : List Nat} {k : Nat} (hk : 0 < k) (hl : k ≤ l.length) : ctP l k ≠ [] := by
  obtain ⟨j, rfl⟩ : ∃ j, k = j + 1 := ⟨k - 1, by omega⟩
  have hx := List.getElem?_eq_getElem (show j < l.length by omega)
  by_cases h0 : 0 < j
  · rw [ctP_succ h0 hx]; simp
  · obtain rfl : j = 0 := by omega
    rw [ctP_one hx]; exact ctext_ne _
theorem ctP_all {l : List Nat} (h : l ≠ []) : ctP l l.length = ctexts l := by
  unfold ctP ctexts
  rw [List.take_length, if_neg h]
theorem ctexts_len {l : List Nat} (h : ∀ n ∈ l, n < 4294967296) : (ctexts l).length ≤ 20 * l.length + 1 := by
  by_cases h0 : l = []
  · rw [h0]; simp [ctexts]
  · rw [← ctP_all h0]
    have := ctP_len h l.length (Nat.le_refl _)
    omega

set_option maxHeartbeats 2000000 in
theorem texts_any (v : Value) (l : List Nat) (w : World) (hv : U32s w v l) (hlen : l.length ≤ 1000) (hT : Powers w) :
    Calls Tryd.prog 28 #[v] w (Tells (.string (strOf (ctexts l))) w) := by
  have hl := Go.Lib.hid hv.2
  have HV := Go.Lib.hid hv
  have HT := Go.Lib.hid hT
  obtain ⟨i, E⟩ := elem8
  have hus : Tryd.prog.underlying 9 = some .string := Tryd.underlying9
  obtain ⟨A, c, rfl, hlc, hc, -, -⟩ := hv.open_
  clear hv hT
  rcases Nat.eq_zero_or_pos l.length with h0 | h0
  · have E0 := Go.Lib.hid (show l = [] from List.eq_nil_of_length_eq_zero h0)
    rw [h0]
    clear h0 hlc hlen
    go_enter Tryd.func28, Tryd.ntmps28
    go_wp2
    go_ret
    exact ⟨by rw [E0.out]; rfl, Below.refl _ _⟩
  · have hz0 : (l.length : Int) ≠ 0 := by omega
    have hz : ((l.length : Int) == 0) = false := by simpa using hz0
    clear hz0
    have CT := Go.Lib.hid text_any
    go_enter Tryd.func28, Tryd.ntmps28
    go_wp2
    go_loopw [3, 4, 5, 11] (fun s _ _ i wr => ∃ (k : Nat) (A' : Option Addr) (c' : Nat), k ≤ l.length ∧ i = .int .i64 k ∧ s = .slice A' (ctP l k).length c' ∧ wr.ownsRow w.heap.size 5 1 (.slice A' (ctP l k).length c') (ctP l k).length (Lib.byteCells (ctP l k)) ∧ RowKit.Below w.heap.size w wr) (fun _ _ _ i _ => l.length - (intOf i).toNat)
    case atStart => exact ⟨0, none, 0, Nat.zero_le _, rfl, by rw [ctP_zero]; rfl, by rw [ctP_zero]; exact World.ownsRow_nil _ _ _ _, Below.refl _ _⟩
    case round =>
      obtain ⟨k, A', c', hk, rfl, rfl, hown, hbw⟩ := hrel
      have htl := ctP_len hl.out k hk
      by_cases hlt : k < l.length
      · obtain ⟨b, off, x, rfl, hb, hx, hx32, hcell⟩ := ((HV.out).keep hbw).at_ hlt
        have hxl := ctext_len hx32
        have C := Go.Lib.hid (fun (W : World) (h : RowKit.Below w.heap.size w W) => CT.out x hx32 W (tab_below HT.out h))
        by_cases hk0 : 0 < k
        · have HE := Go.Lib.hid (ctP_succ hk0 hx)
          clear hx
          generalize ctext x = X at HE C hxl
          generalize ctP l k = T at HE hown htl
          go_wp2_with (first | (at_builtin; refine wpList_append_row rfl (.tmp 18) (.tmp 19) rfl E w.heap.size _ _ _ rfl (hown.alloc _) _ 1 [.int .u8 32] rfl (Row.one _ _ _) (one_u8 _) (by unfold maxLen; omega) (by omega) (Nat.le_trans hbw.size (by simp)) (T.length + 1) rfl ?_; intro A1 c1 w1 hown1 hg1 hat1 hb1; have hbw1 := hbw.trans ((Go.RowKit.Below.alloc (Go.RowKit.Below.refl w.heap.size wr) hbw.size (.cells #[.int .u8 32] 5)).trans hb1); clear hb1 hat1 hg1) | (go_at_call 25; refine (C.out _ hbw1).mono ?_; rintro e w2 ⟨rfl, hb2⟩; have hown2 := own_keep hown1 hb2; have hbw2 := hbw1.trans (hb2.mono hbw1.size)) | (at_builtin; refine wpList_append_str rfl (.tmp 21) (.tmp 23) rfl E hus w.heap.size _ _ _ rfl hown2 X rfl (by unfold maxLen; omega) (by omega) hbw2.size (T.length + 1 + X.length) rfl ?_; intro A3 c3 w3 hown3 hb3))
          go_roundw
          case rel => exact ⟨k + 1, A3, c3, by omega, by go_num, by rw [HE.out]; simp only [List.length_append, List.length_cons, List.length_nil, Nat.zero_add], by
            rw [HE.out]
            simp only [List.length_append, List.length_cons, List.length_nil, Lib.byteCells, List.map_append, List.map_cons, List.map_nil, Nat.zero_add] at hown3 ⊢
            exact hown3, hbw2.trans hb3⟩
          case measure => simp [intOf]; omega
        · obtain rfl : k = 0 := by omega
          rw [Nat.add_zero] at hcell
          have HE := Go.Lib.hid (ctP_one hx)
          have HZ := Go.Lib.hid (ctP_zero l)
          clear hx
          generalize ctext x = X at HE C hxl
          generalize ctP l 0 = T at HZ hown htl
          go_wp2_with (first | (go_at_call 25; refine (C.out _ hbw).mono ?_; rintro e w2 ⟨rfl, hb2⟩; have hown2 := own_keep hown hb2; have hbw2 := hbw.trans (hb2.mono hbw.size)) | (at_builtin; refine wpList_append_str rfl (.tmp 21) (.tmp 23) rfl E hus w.heap.size _ _ _ rfl hown2 X rfl (by unfold maxLen; omega) (by omega) hbw2.size (T.length + X.length) rfl ?_; intro A3 c3 w3 hown3 hb3))
          go_roundw
          case rel => exact ⟨1, A3, c3, by omega, by go_num, by rw [HE.out, HZ.out]; simp, by
            rw [HZ.out] at hown3
            rw [HE.out]
            simpa [Lib.byteCells] using hown3, hbw2.trans hb3⟩
          case measure => simp [intOf]; omega
      · have hk2 : k = l.length := by omega
        have HE := Go.Lib.hid (show ctP l k = ctexts l by rw [hk2]; exact ctP_all (List.length_pos_iff.1 h0))
        have hconv := text_of_row hown
        clear hk2
        go_wp2
        go_ret
        exact ⟨by rw [HE.out]; rfl, hbw⟩

set_option maxHeartbeats 1000000 in
theorem refTexts_any (v : Value) (l : List Nat) (w : World) (hv : U32s w v l) (hlen : l.length ≤ 1000) :
    Calls Tryd.prog 29 #[v] w fun e w' => e = .returned (.string (strOf (ctexts l))) ∧ w = w' := by
  have hl := Go.Lib.hid hv.2
  have HV := Go.Lib.hid hv
  have CN := Go.Lib.hid refText_any
  obtain ⟨A, c, rfl, hlc, hc, -, -⟩ := hv.open_
  clear hv
  go_enter Tryd.func29, Tryd.ntmps29
  go_wp2
  go_loop [3, 4] (fun s i => ∃ k : Nat, k ≤ l.length ∧ i = .int .i64 k ∧ s = .string (strOf (ctP l k))) (fun _ i => l.length - (intOf i).toNat)
  case atStart => exact ⟨0, Nat.zero_le _, rfl, by rw [ctP_zero]; rfl⟩
  case round =>
    obtain ⟨k, hk, rfl, rfl⟩ := hrel
    have ht := ctP_len hl.out k hk
    by_cases hlt : k < l.length
    · obtain ⟨b, off, x, rfl, hb, hx, hx32, hcell⟩ := (HV.out).at_ hlt
      have hd := ctext_len hx32
      have C := Go.Lib.hid (fun w => CN.out x hx32 w)
      by_cases h0 : 0 < k
      · have E := Go.Lib.hid (ctP_succ h0 hx)
        have s1 : ¬ 9223372036854775807 < (strOf (ctP l k)).size + 1 := by rw [strOf_size]; omega
        have s2 : ¬ 9223372036854775807 < (strOf (ctP l k)).size + 1 + (strOf (ctext x)).size := by rw [strOf_size, strOf_size]; omega
        clear hx
        go_wp2_with (go_at_call 27; refine (C.out _).mono ?_; rintro e w1 ⟨rfl, rfl⟩)
        go_round
        case rel => exact ⟨k + 1, by omega, by go_num, by rw [E.out, ← strOf_append, ← strOf_append]; rfl⟩
        case measure => simp [intOf]; omega
      · obtain rfl : k = 0 := by omega
        have E := Go.Lib.hid (ctP_one hx)
        rw [Nat.add_zero] at hcell
        have s2 : ¬ 9223372036854775807 < (strOf (ctP l 0)).size + (strOf (ctext x)).size := by rw [strOf_size, strOf_size]; omega
        clear hx
        go_wp2_with (go_at_call 27; refine (C.out _).mono ?_; rintro e w1 ⟨rfl, rfl⟩)
        go_round
        case rel => exact ⟨1, by omega, by go_num, by rw [E.out, ctP_zero, strOf_append]; rfl⟩
        case measure => simp [intOf]; omega
    · have hk2 : k = l.length := by omega
      by_cases h0 : l = []
      · have ez : ctP l k = [] := by rw [h0]; simp [ctP, joinS]
        rw [ez, show strOf [] = (⟨#[]⟩ : ByteArray) from rfl]
        have H0 := Go.Lib.hid h0
        clear hk2 ez ht h0
        go_wp2
        go_ret
        exact ⟨by rw [H0.out]; rfl, rfl⟩
      · have E := Go.Lib.hid (show ctP l k = ctexts l by rw [hk2]; exact ctP_all h0)
        have hne : ((strOf (ctP l k)).toList == []) = false := by
          rw [toList_strOf]
          have := ctP_ne (k := k) (l := l) (by rw [hk2]; exact List.length_pos_iff.2 h0) hk
          simpa using this
        have hne2 : (strOf (ctP l k)).toList.isEmpty = false := by rw [toList_strOf]; simpa using ctP_ne (k := k) (l := l) (by rw [hk2]; exact List.length_pos_iff.2 h0) hk
        clear hk2
        go_wp2
        go_ret
        exact ⟨by rw [E.out]; rfl, rfl⟩

set_option maxHeartbeats 1000000 in
theorem refRising_any (v : Value) (l : List Nat) (w : World) (hv : U32s w v l) (hlen : l.length ≤ 1000000) : Calls Tryd.prog 31 #[v] w (Tells (.bool (decide (rising l))) w) := by
  have HV := Go.Lib.hid hv
  obtain ⟨A, c, rfl, hlc, hc, -, -⟩ := hv.open_
  clear hv
  go_enter Tryd.func31, Tryd.ntmps31
  go_wp2
  go_loopw [3] (fun i wr => ∃ k q : Nat, k ≤ l.length ∧ i = .int .i64 k ∧ Hid (rising (l.take (k + 1))) ∧ wr = w.drewN q) (fun i _ => l.length - (intOf i).toNat)
  case atStart => exact ⟨0, 0, Nat.zero_le _, rfl, by unfold Hid rising; cases l with
    | nil => simp
    | cons a m => simp, rfl⟩
  case round =>
    obtain ⟨k, q, hk, rfl, hs, rfl⟩ := hrel
    by_cases hlt : k + 1 < l.length
    · obtain ⟨b0, off, x, rfl, hb0, hx, hx32, hcell⟩ := (HV.out).at_ (k := k) (by omega)
      obtain ⟨b1, off1, y, he, hb1, hy, hy32, hcell1⟩ := (HV.out).at_ (k := k + 1) (by omega)
      injection he with he
      injection he with h1 h2
      subst h1 h2
      have k0 : (0 : Int) ≤ (k : Int) + 1 := by omega
      have k1 : (k : Int) + 1 < (l.length : Int) := by omega
      have k2 : (k : Int) < (l.length : Int) := by omega
      have e1 : IntKind.i64.wrap ((k : Int) + 1) = (k : Int) + 1 := IntWalk.i64_in _ (by omega)
      have e2 : ((k : Int) + 1).toNat = k + 1 := by omega
      have HR := Go.Lib.hid (rising_take (k := k + 1) (by omega) hx hy hs.out)
      clear hx hy
      by_cases hxy : x < y
      · have ht : decide ((y : Int) ≤ (x : Int)) = false := by simp; omega
        go_wp2
        go_quiet (fail)
        all_goals go_wp2
        all_goals go_roundw
        case rel => exact ⟨k + 1, _, by omega, by go_num, (HR.out).2 hxy, rfl⟩
        case measure => simp [intOf]; omega
      · have ht : decide ((y : Int) ≤ (x : Int)) = true := by simp; omega
        have HN := Go.Lib.hid (show ¬ rising l from fun h => hxy ((HR.out).1 (rising_sub _ h)))
        go_wp2
        go_quiet (fail)
        all_goals go_wp2
        all_goals go_ret
        all_goals exact ⟨ret_bool (decide_eq_false HN.out).symm, Below.tr (Mem.below_drewN w q) (Mem.below_drewN (w.drewN q) nq)⟩
    · have HK := Go.Lib.hid (show rising l by
        have := hs.out
        rwa [List.take_of_length_le (by omega)] at this)
      have k1 : ¬ (k : Int) + 1 < (l.length : Int) := by omega
      go_wp2
      go_ret
      exact ⟨ret_bool (decide_eq_true HK.out).symm, Mem.below_drewN _ _⟩
end Go.Proofs.YtdgfnnjcpoklfaaDoor.Com
