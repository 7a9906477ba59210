/- asn's number and Parse. -/
import Derived.Test.YtcdbeljmniaofaaGreatDoorErrVars
import Derived.Test.YtcdbeljmniaofaaGreatDoorParseMath
import Derived.WalkSmall
import Derived.Lib.ConvBytes
import Derived.Outline
namespace Go.Proofs.YtcdbeljmniaofaaGreatDoor.Nums
open Go.RowKit Mem Pfx Dec

/-- ParseUint(s, 10, 32): the number and no error, or an error. -/
theorem parseUint_ok (l : List UInt8) (hlen : l.length ≤ 1000000) (u : Nat) (h : Lib.parseUintB 32 l = .ok u) (w : World) :
    Calls Tryz.prog 68 #[.string (strOf l), .int .i64 10, .int .i64 32] w fun e w' => e = .returned (.tuple #[.int .u64 u, .nilIface]) ∧ Below w.heap.size w w' := by
  refine (Tryz.strconv_ParseUint_10_at32_ok (strOf l) (by rw [strOf_size]; omega) u (by simpa [strOf] using h) w).mono fun e w' ⟨he, hw⟩ => ⟨he, ?_⟩
  rcases hw with rfl | rfl
  · exact Below.refl _ _
  · exact ⟨rfl, rfl, rfl, by rw [Lib.bytesWorld_size]; omega, fun k hk => Lib.bytesWorld_at_old w _ _ k hk⟩
theorem parseUint_bad (l : List UInt8) (hlen : l.length ≤ 1000000) (h : ∀ u, Lib.parseUintB 32 l ≠ .ok u) (w : World) (hv : ErrVars w) :
    Calls Tryz.prog 68 #[.string (strOf l), .int .i64 10, .int .i64 32] w fun e w' => (∃ u N : Nat, e = .returned (.tuple #[.int .u64 u, .iface 133 (.pointer (some ⟨N, 0, none⟩))])) ∧ Below w.heap.size w w' := by
  obtain ⟨⟨t1, p1, h1⟩, ⟨t2, p2, h2⟩, _⟩ := hv
  have e : (strOf l).data.toList = l := by simp [strOf]
  rcases hp : Lib.parseUintB 32 l with u | _ | _
  · exact absurd hp (h u)
  · refine (Any.strconv_ParseUint_10_at32_syntax_var Tryz.laysPu14 (strOf l) (by rw [strOf_size]; omega) (by rw [e]; exact hp) t1 p1 w h1).mono fun e w' ⟨N, he, _, _, hb⟩ => ⟨⟨0, N, he⟩, hb⟩
  · refine (Any.strconv_ParseUint_10_at32_range_var Tryz.laysPu14 (strOf l) (by rw [strOf_size]; omega) (by rw [e]; exact hp) t2 p2 w h2).mono fun e w' ⟨N, he, _, _, hb⟩ => ⟨⟨4294967295, N, he⟩, hb⟩

set_option maxRecDepth 100000 in
set_option maxHeartbeats 1000000 in
theorem number_bad (l : List UInt8) (hlen : l.length ≤ 1000000) (h : ∀ u, Lib.parseUintB 32 l ≠ .ok u) (w : World) (hv : ErrVars w) :
    Calls Tryz.prog 47 #[.string (strOf l)] w (Tells (.tuple #[.int .u32 0, .bool false]) w) := by
  have C := Go.Lib.hid (parseUint_bad l hlen h w hv)
  clear h hv
  go_enter Tryz.func47, Tryz.ntmps47
  go_wp2_with (go_at_call 68; refine (C.out).mono ?_; rintro e w1 ⟨⟨u, N, rfl⟩, hb1⟩)
  go_ret2
  exact ⟨rfl, hb1⟩

set_option maxRecDepth 100000 in
set_option maxHeartbeats 1000000 in
theorem number_ok (l : List UInt8) (hlen : l.length ≤ 1000000) (u : Nat) (h : Lib.parseUintB 32 l = .ok u) (w : World) :
    Calls Tryz.prog 47 #[.string (strOf l)] w (Tells (if 1 < l.length ∧ l.head? = some 48 then .tuple #[.int .u32 0, .bool false] else .tuple #[.int .u32 u, .bool true]) w) := by
  have C := Go.Lib.hid (parseUint_ok l hlen u h w)
  obtain ⟨V, hV⟩ : ∃ V : Value, V = (if 1 < l.length ∧ l.head? = some 48 then .tuple #[.int .u32 0, .bool false] else .tuple #[.int .u32 u, .bool true]) := ⟨_, rfl⟩
  rw [← hV]
  have HV := Go.Lib.hid hV
  clear hV
  obtain ⟨hne, -, hu, hu2⟩ := (parse32_iff l u).1 h
  have hz : (strOf l).size = l.length := strOf_size l
  have hu32 : u ≤ 4294967295 := by omega
  clear h hu hu2
  have k0 : (0 : Int) ≤ (u : Int) := by omega
  have k1 : (u : Int) ≤ 4294967295 := by omega
  by_cases h1 : 1 < l.length
  · have t1 : (1 : Int) < ((strOf l).size : Int) := by omega
    have hi : 0 < (strOf l).size := by omega
    have HE := Go.Lib.hid (show l.head? = some (strOf l)[0] from by
      cases l with
      | nil => exact absurd rfl hne
      | cons c r => rfl)
    by_cases h0 : (strOf l)[0] = 48
    · have HF := Go.Lib.hid (show (if 1 < l.length ∧ l.head? = some 48 then Value.tuple #[.int .u32 0, .bool false] else .tuple #[.int .u32 u, .bool true]) = .tuple #[.int .u32 0, .bool false] from if_pos ⟨h1, by rw [HE.out, h0]⟩)
      have t2 : (((strOf l)[0].toNat : Int) == 48) = true := by rw [h0]; rfl
      clear hne h0 hz
      go_enter Tryz.func47, Tryz.ntmps47
      go_wp2_with (go_at_call 68; refine (C.out).mono ?_; rintro e w1 ⟨rfl, hb1⟩)
      go_ret2
      exact ⟨by rw [HV.out, HF.out]; rfl, hb1⟩
    · have HF := Go.Lib.hid (show (if 1 < l.length ∧ l.head? = some 48 then Value.tuple #[.int .u32 0, .bool false] else .tuple #[.int .u32 u, .bool true]) = .tuple #[.int .u32 u, .bool true] from if_neg (fun h => by
        have := h.2
        rw [HE.out] at this
        exact h0 (Option.some.inj this)))
      have t2 : (((strOf l)[0].toNat : Int) == 48) = false := by
        have : (strOf l)[0].toNat ≠ 48 := fun e => h0 (UInt8.toNat_inj.1 e)
        simp; omega
      clear hne h0 hz
      go_enter Tryz.func47, Tryz.ntmps47
      go_wp2_with (go_at_call 68; refine (C.out).mono ?_; rintro e w1 ⟨rfl, hb1⟩)
      go_ret2
      exact ⟨by rw [HV.out, HF.out]; rfl, hb1⟩
  · have t1 : ¬ (1 : Int) < ((strOf l).size : Int) := by omega
    have HF := Go.Lib.hid (show (if 1 < l.length ∧ l.head? = some 48 then Value.tuple #[.int .u32 0, .bool false] else .tuple #[.int .u32 u, .bool true]) = .tuple #[.int .u32 u, .bool true] from if_neg (fun h => h1 h.1))
    clear hne hz
    go_enter Tryz.func47, Tryz.ntmps47
    go_wp2_with (go_at_call 68; refine (C.out).mono ?_; rintro e w1 ⟨rfl, hb1⟩)
    go_ret2
    exact ⟨by rw [HV.out, HF.out]; rfl, hb1⟩

/-- What number tells of a word. -/
def numV (l : List UInt8) : Value := match numW 4294967295 l with
  | some u => .tuple #[.int .u32 u, .bool true]
  | none => .tuple #[.int .u32 0, .bool false]
theorem number_any (l : List UInt8) (hlen : l.length ≤ 1000000) (w : World) (hv : ErrVars w) :
    Calls Tryz.prog 47 #[.string (strOf l)] w (Tells (numV l) w) := by
  have e := numW_32 l
  by_cases h : ∃ u, Lib.parseUintB 32 l = .ok u
  · obtain ⟨u, hu⟩ := h
    have c := number_ok l hlen u hu w
    rw [hu] at e
    simp only at e
    unfold numV
    by_cases hz : 1 < l.length ∧ l.head? = some 48
    · rw [if_pos hz] at c e
      rw [e]; exact c
    · rw [if_neg hz] at c e
      rw [e]; exact c
  · have hno : ∀ u, Lib.parseUintB 32 l ≠ .ok u := fun u hu => h ⟨u, hu⟩
    have e2 : numW 4294967295 l = none := by
      rw [e]
      rcases hp : Lib.parseUintB 32 l with u | _ | _
      · exact absurd hp (hno u)
      · rfl
      · rfl
    unfold numV
    rw [e2]
    exact number_bad l hlen hno w hv
end Go.Proofs.YtcdbeljmniaofaaGreatDoor.Nums
