/- The contract of number: digits up to a bound, at most three of them, none ahead that is 0. -/
import Derived.Test.YtmdfihmmencdoaaDoorPfxText
namespace Go.Proofs.YtmdfihmmencdoaaDoor.Pfx
open Go.RowKit Go.Sort

theorem val_lt : ∀ (n : Nat) (l : List UInt8), l.length = n → l.all dig = true → val l < 10 ^ n := by
  intro n
  induction n with
  | zero => intro l hl _; rw [List.length_eq_zero_iff.1 hl]; decide
  | succ n ih =>
    intro l hl hd
    rcases List.eq_nil_or_concat l with rfl | ⟨m, c, rfl⟩
    · simp at hl
    · simp only [List.concat_eq_append, List.length_append, List.length_cons, List.length_nil] at hl
      simp only [List.concat_eq_append, List.all_append, List.all_cons, List.all_nil, Bool.and_true, Bool.and_eq_true] at hd
      obtain ⟨h1, h2, _⟩ := of_dig hd.2
      have := ih m (by omega) hd.1
      rw [List.concat_eq_append, val_snoc, Nat.pow_succ]
      omega
theorem take_snoc (s : ByteArray) (k : Nat) (h : k < s.size) : s.data.toList.take (k + 1) = s.data.toList.take k ++ [s[k]] := by
  rw [List.take_succ_eq_append_getElem (by simpa using h)]; rfl
theorem size_list (s : ByteArray) : s.size = s.data.toList.length := by
  show s.data.size = _
  simp

/-- What number hands back. -/
def numV (o : Option Nat) : Value := match o with | some n => .tuple #[.int .i64 n, .bool true] | none => .tuple #[.int .i64 0, .bool false]

theorem shape_no {s : ByteArray} (h : s.size = 0 ∨ 3 < s.size ∨ (1 < s.size ∧ s.data.toList.getD 0 0 = 48)) (most : Nat) : numP most s.data.toList = none := by
  have e : shapeB s.data.toList = false := by
    unfold shapeB
    rw [← size_list]
    rcases h with h | h | ⟨h, g⟩
    · rw [h]; rfl
    · rw [decide_eq_false (by omega : ¬ s.size ≤ 3)]; simp
    · rw [g, decide_eq_true h]; simp
  unfold numP; rw [e]; rfl

theorem not_empty (s : ByteArray) (h : 0 < s.size) : s.toList.isEmpty = false := by
  rw [Lib.toList_data]
  have := size_list s
  cases hl : s.data.toList with
  | nil => rw [hl] at this; rw [this] at h; simp at h
  | cons a b => rfl
theorem number_long (s : ByteArray) (most : Int) (w : World) (h : 3 < s.size) :
    Calls Tryd.prog 36 #[.string s, .int .i64 most] w fun e w' => e = .returned (.tuple #[.int .i64 0, .bool false]) ∧ w = w' := by
  have h0 := not_empty s (by omega)
  have h1 : (3 : Int) < (s.size : Int) := by omega
  go_enter Tryd.func36, Tryd.ntmps36
  go_wp2
  go_ret2
  exact ⟨rfl, rfl⟩

theorem number_bad (s : ByteArray) (most : Int) (w : World) (h : s.size = 0 ∨ 3 < s.size ∨ (1 < s.size ∧ s.data.toList.getD 0 0 = 48)) :
    Calls Tryd.prog 36 #[.string s, .int .i64 most] w fun e w' => e = .returned (.tuple #[.int .i64 0, .bool false]) ∧ w = w' := by
  rcases h with h | h | ⟨h, g⟩
  · have e : s = ⟨#[]⟩ := by
      have := size_list s
      rw [h] at this
      apply ByteArray.ext
      simpa using (List.length_eq_zero_iff.1 this.symm)
    subst e
    go_enter Tryd.func36, Tryd.ntmps36
    go_wp2
    go_ret2
    exact ⟨rfl, rfl⟩
  · exact number_long s most w h
  · have h0 : s.toList.isEmpty = false := by
      rw [Lib.toList_data]
      have := size_list s
      cases hl : s.data.toList with
      | nil => rw [hl] at this; rw [this] at h; simp at h
      | cons a b => rfl
    have hp : 0 < s.size := by omega
    have g0 : s[0] = 48 := by
      rw [← g]
      show s.data[0] = _
      rw [List.getD_eq_getElem?_getD, Array.getElem?_toList, Array.getElem?_eq_getElem (by exact hp)]; rfl
    have h1 : (1 : Int) < (s.size : Int) := by omega
    by_cases h3 : 3 < s.size
    · exact number_long s most w h3
    go_enter Tryd.func36, Tryd.ntmps36
    go_wp2
    go_ret2
    exact ⟨rfl, rfl⟩

/-- A text of one to three signs that does not begin with a 0, unless it is that. -/
theorem number_loop (s : ByteArray) (most : Nat) (w : World) (hp : 0 < s.size) (h3 : s.size ≤ 3) (hz : s.size = 1 ∨ (1 < s.size ∧ ¬ s[0] = 48)) :
    Calls Tryd.prog 36 #[.string s, .int .i64 most] w fun e w' => e = .returned (if s.data.toList.all dig && decide (val s.data.toList ≤ most) then .tuple #[.int .i64 (val s.data.toList), .bool true] else .tuple #[.int .i64 0, .bool false]) ∧ w = w' := by
  have h0 := not_empty s hp
  have hl := size_list s
  have h3i : ¬ (3 : Int) < (s.size : Int) := by omega
  obtain ⟨R, hR⟩ : ∃ R, R = (if s.data.toList.all dig && decide (val s.data.toList ≤ most) then Value.tuple #[.int .i64 (val s.data.toList), .bool true] else Value.tuple #[.int .i64 0, .bool false]) := ⟨_, rfl⟩
  rw [← hR]
  have HR := Go.Lib.hid hR
  clear hR
  have hl2 := Go.Lib.hid hl
  clear hl
  have hz2 : (¬ (1 : Int) < (s.size : Int)) ∨ ((1 : Int) < (s.size : Int) ∧ ((s[0].toNat : Int) == 48) = false) := by
    rcases hz with hz | ⟨hz, hn⟩
    · left; omega
    · right
      have hn : s[0].toNat ≠ 48 := fun e => hn (UInt8.toNat_inj.1 e)
      exact ⟨by omega, by simp; omega⟩
  clear hz
  rcases hz2 with hz2 | ⟨hz2, hz4⟩
  all_goals
    go_enter Tryd.func36, Tryd.ntmps36
    go_wp2
    go_loop [6, 7] (fun n i => ∃ k : Nat, k ≤ s.size ∧ i = .int .i64 k ∧ n = .int .i64 (val (s.data.toList.take k)) ∧ (s.data.toList.take k).all dig = true) (fun _ i => s.size - (intOf i).toNat)
    case atStart => exact ⟨0, Nat.zero_le _, rfl, rfl, rfl⟩
    case round =>
      obtain ⟨k, hk, rfl, rfl, hd⟩ := hrel
      have hv := val_lt _ _ (rfl : (s.data.toList.take k).length = _) hd
      have hlen : (s.data.toList.take k).length = k := by rw [List.length_take, ← hl2.out]; omega
      rw [hlen] at hv
      have hv2 : val (s.data.toList.take k) < 1000 := Nat.lt_of_lt_of_le hv (Nat.pow_le_pow_right (by decide) (show k ≤ 3 by omega))
      clear hv hlen
      have HD := Go.Lib.hid hd
      clear hd
      by_cases hlt : k < s.size
      · have hts := take_snoc s k hlt
        have hvs := val_snoc (s.data.toList.take k) s[k]
        have HT : Hid ((s.data.toList.take (k + 1)) = s.data.toList.take k ++ [s[k]]) := hts
        have HV : Hid (val (s.data.toList.take (k + 1)) = val (s.data.toList.take k) * 10 + (s[k].toNat - 48)) := by rw [hts]; exact hvs
        clear hts hvs
        generalize hV : val (s.data.toList.take k) = V at hv2 HV
        have HVV := Go.Lib.hid hV
        clear hV
        have hbyte := UInt8.toNat_lt s[k]
        by_cases hdg : 48 ≤ s[k].toNat ∧ s[k].toNat ≤ 57
        · obtain ⟨d1, d2⟩ := hdg
          have d1' : (48 : Int) ≤ (s[k].toNat : Int) := by omega
          have d2' : (s[k].toNat : Int) ≤ 57 := by omega
          go_wp2
          go_round
          case rel => exact ⟨k + 1, by omega, by go_num, by rw [HV.out]; congr 1; omega, by rw [HT.out, List.all_append, HD.out]; simp [dig, d1, d2]⟩
          case measure => simp [intOf]; omega
        · have hno : Hid (R = .tuple #[.int .i64 0, .bool false]) := Go.Lib.hid (by
            have hf : s.data.toList.all dig = false := List.all_eq_false.2 ⟨s[k], by
              show s.data[k] ∈ _
              simp, by
              unfold dig
              simp only [Bool.and_eq_true, decide_eq_true_eq]
              exact hdg⟩
            rw [HR.out, hf]; rfl)
          by_cases hlo : (s[k].toNat : Int) < 48
          · clear hdg
            go_wp2
            go_ret2
            exact ⟨by rw [hno.out]; rfl, rfl⟩
          · have hhi : (57 : Int) < (s[k].toNat : Int) := by omega
            clear hdg
            go_wp2
            go_ret2
            exact ⟨by rw [hno.out]; rfl, rfl⟩
      · have hks : k = s.size := by omega
        have hall : s.data.toList.take k = s.data.toList := List.take_of_length_le (by rw [← hl2.out]; omega)
        rw [hall] at HD hv2 ⊢
        generalize hV : val s.data.toList = V at hv2 HR ⊢
        have HA := Go.Lib.hid hall
        clear hV hall
        subst hks
        by_cases hm : V ≤ most
        · have hyes : Hid (R = .tuple #[.int .i64 V, .bool true]) := Go.Lib.hid (by rw [HR.out, HD.out, decide_eq_true hm]; rfl)
          have hm1 : (V : Int) ≤ (most : Int) := by omega
          go_wp2
          go_ret2
          exact ⟨by rw [hyes.out]; rfl, rfl⟩
        · have hno : Hid (R = .tuple #[.int .i64 0, .bool false]) := Go.Lib.hid (by rw [HR.out, decide_eq_false hm, Bool.and_false]; rfl)
          have hm1 : (most : Int) < (V : Int) := by omega
          go_wp2
          go_ret2
          exact ⟨by rw [hno.out]; rfl, rfl⟩

theorem number_any (s : ByteArray) (most : Nat) (w : World) :
    Calls Tryd.prog 36 #[.string s, .int .i64 most] w fun e w' => e = .returned (numV (numP most s.data.toList)) ∧ w = w' := by
  have hl := size_list s
  by_cases h : s.size = 0 ∨ 3 < s.size ∨ (1 < s.size ∧ s.data.toList.getD 0 0 = 48)
  · rw [shape_no h]
    exact number_bad s most w h
  · have hp : 0 < s.size := by omega
    have g0 : s.data.toList.getD 0 0 = s[0] := by
      show _ = s.data[0]
      rw [List.getD_eq_getElem?_getD, Array.getElem?_toList, Array.getElem?_eq_getElem (by exact hp)]; rfl
    have hz : s.size = 1 ∨ (1 < s.size ∧ ¬ s[0] = 48) := by
      by_cases h1 : s.size = 1
      · exact .inl h1
      · exact .inr ⟨by omega, fun e => h (.inr (.inr ⟨by omega, by rw [g0, e]⟩))⟩
    have hs : shapeB s.data.toList = true := by
      unfold shapeB
      rw [← hl, g0, decide_eq_true (by omega : s.size ≤ 3)]
      have h1 : (s.size == 0) = false := by rw [beq_eq_false_iff_ne]; omega
      rw [h1]
      rcases hz with hz | ⟨hz, hn⟩
      · rw [hz]; rfl
      · have h2 : (s[0] == 48) = false := by simpa using hn
        rw [h2]; simp
    refine (number_loop s most w hp (by omega) hz).mono fun e w' ⟨he, hw⟩ => ⟨?_, hw⟩
    rw [he]
    unfold numP
    rw [hs, Bool.true_and]
    split <;> rfl

end Go.Proofs.YtmdfihmmencdoaaDoor.Pfx
