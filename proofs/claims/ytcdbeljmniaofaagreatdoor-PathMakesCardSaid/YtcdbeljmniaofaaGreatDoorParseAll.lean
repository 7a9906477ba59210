/- asn's Parse. asn's Parse: the numbers that it reads lie in memory of its own. -/
import Derived.Test.YtcdbeljmniaofaaGreatDoorNumParse
import Derived.Outline

/- asn's Parse. -/
namespace Go.Proofs.YtcdbeljmniaofaaGreatDoor.Nums
open Go.RowKit Mem Pfx Dec

theorem cut_any (l : List UInt8) {a b : List UInt8} {r : Bool} (h : Lib.cut l [32] = (a, b, r)) (hlen : l.length ≤ 1000000) (w : World) (hv : ErrVars w) :
    Calls Tryz.prog 44 #[.string (strOf l), .string ⟨#[32]⟩] w (Tells (.tuple #[.string (strOf a), .string (strOf b), .bool r]) w) := by
  obtain ⟨m, hm⟩ := hv.top
  refine (Tryz.strings_Cut (strOf l) ⟨#[32]⟩ m w (by rw [strOf_size]; omega) hm).mono fun e w' ⟨he, n, hw⟩ => ?_
  have e1 : (strOf l).data.toList = l := by simp [strOf]
  rw [e1, h] at he
  exact ⟨he, hw ▸ Mem.below_drewN w n⟩

/-- What Parse tells of a text. -/
def Parsed (r : Option (List Nat)) (w : World) (e : Ending) (w' : World) : Prop :=
  (match r with
  | some l => ∃ A c, e = .returned (.tuple #[.slice A l.length c, .int .i64 0]) ∧ U32s w' (.slice A l.length c) l
  | none => e = .returned (.tuple #[.slice none 0 0, .int .i64 2])) ∧ Below w.heap.size w w'
theorem bound_numW {n : Nat} {a : List UInt8} (h : numW 4294967295 a = some n) : n < 4294967296 := by have := (numW_sound h).2; omega
theorem numV_some {n : Nat} {a : List UInt8} (h : numW 4294967295 a = some n) : numV a = .tuple #[.int .u32 n, .bool true] := by unfold numV; rw [h]
theorem numV_none {a : List UInt8} (h : numW 4294967295 a = none) : numV a = .tuple #[.int .u32 0, .bool false] := by unfold numV; rw [h]

theorem parse_bar (w : World) : Calls Tryz.prog 33 #[.string ⟨#[45]⟩] w (Parsed (some []) w) := by
  go_enter Tryz.func33, Tryz.ntmps33
  go_wp2
  go_ret2
  exact ⟨⟨none, 0, rfl, U32s.nil _⟩, Below.refl _ _⟩

/-- Where the loop stands. -/
def At (s : List UInt8) (K : List Nat) (more : Bool) (rest : List UInt8) : Prop := (splitS s).mapM (numW 4294967295) = if more then toCome K rest else some K

set_option maxRecDepth 100000 in
set_option maxHeartbeats 4000000 in
theorem parse_list (s : List UInt8) (w : World) (hs : s ≠ [45]) (hlen : s.length ≤ 1000000) (hv : ErrVars w) : Calls Tryz.prog 33 #[.string (strOf s)] w (Parsed ((splitS s).mapM (numW 4294967295)) w) := by
  obtain ⟨i, E⟩ := elem32
  have HV := Go.Lib.hid hv
  have ht : ((strOf s).toList == [45]) = false := by rw [toList_strOf]; simpa using hs
  have CC := Go.Lib.hid @cut_any
  have CN := Go.Lib.hid number_any
  obtain ⟨R, hR⟩ : ∃ R, R = (splitS s).mapM (numW 4294967295) := ⟨_, rfl⟩
  rw [← hR]
  have HR := Go.Lib.hid hR
  clear hv hs hR
  go_enter Tryz.func33, Tryz.ntmps33
  go_wp2
  go_loopw [0, 4, 5, 6, 7, 8] (fun v0 v4 v5 _ _ _ wr => ∃ (K : List Nat) (A' : Option Addr) (c' : Nat) (more : Bool) (rest : List UInt8), v0 = .string (strOf rest) ∧ v4 = .slice A' K.length c' ∧ v5 = .bool more ∧ wr.ownsRow w.heap.size 29 1 (.slice A' K.length c') K.length (K.map fun n : Nat => Value.int .u32 n) ∧ Hid (At s K more rest) ∧ Hid (∀ n ∈ K, n < 4294967296) ∧ K.length + rest.length ≤ 1000000 ∧ Below w.heap.size w wr)
    (fun v0 _ v5 _ _ _ _ => match v0, v5 with | .string t, .bool true => t.size + 1 | _, _ => 0)
  case atStart => exact ⟨[], none, 0, true, s, rfl, rfl, rfl, World.ownsRow_nil _ _ _ _, by unfold Hid At; rw [if_pos rfl, toCome_start], by unfold Hid; simp, by simpa using hlen, Below.refl _ _⟩
  case round =>
    obtain ⟨K, A', c', more, rest, rfl, rfl, rfl, hown, hat, hK, hKl, hbw⟩ := hrel
    have HVr := Go.Lib.hid ((HV.out).keep hbw)
    cases more with
    | false =>
      have HD := Go.Lib.hid (show R = some K by rw [HR.out]; have := hat.out; unfold At at this; simpa using this)
      have HU := Go.Lib.hid (U32s.of_own hown hK.out)
      go_wp2
      go_ret2
      exact ⟨by rw [HD.out]; exact ⟨A', c', rfl, HU.out⟩, hbw⟩
    | true =>
      have hat2 : R = toCome K rest := by rw [HR.out]; have := hat.out; unfold At at this; simpa using this
      rcases cut_blank rest with ⟨a, b, hc, hsp, hl⟩ | ⟨hc, hsp⟩
      · cases hn : numW 4294967295 a with
        | none =>
          have HD := Go.Lib.hid (show R = none by rw [hat2]; exact toCome_bad hsp hn)
          have C1 := Go.Lib.hid (CC.out rest hc (by omega))
          have C2 := Go.Lib.hid (fun W (h : ErrVars W) => numV_none hn ▸ CN.out a (by omega) W h)
          clear hn hc hsp hat2 hat
          go_wp2_with (first | (go_at_call 44; refine (C1.out _ HVr.out).mono ?_; rintro e w1 ⟨rfl, hb1⟩) | (go_at_call 47; refine (C2.out _ ((HVr.out).keep hb1)).mono ?_; rintro e w2 ⟨rfl, hb2⟩))
          go_ret2
          exact ⟨by rw [HD.out]; rfl, hbw.trans ((Below.tr hb1 hb2).mono hbw.size)⟩
        | some n =>
          have HD := Go.Lib.hid (show At s (K ++ [n]) true b by unfold At; rw [if_pos rfl, ← HR.out, hat2, toCome_more hsp hn])
          have HK2 := Go.Lib.hid (show ∀ m ∈ K ++ [n], m < 4294967296 from fun m hm => by
            rcases List.mem_append.1 hm with h | h
            · exact hK.out m h
            · rw [List.mem_singleton.1 h]; exact bound_numW hn)
          have C1 := Go.Lib.hid (CC.out rest hc (by omega))
          have C2 := Go.Lib.hid (fun W (h : ErrVars W) => numV_some hn ▸ CN.out a (by omega) W h)
          have HZ := Go.Lib.hid (show (strOf b).size < (strOf rest).size by rw [strOf_size, strOf_size]; omega)
          clear hn hc hsp hat2 hat
          go_wp2_with (first | (go_at_call 44; refine (C1.out _ HVr.out).mono ?_; rintro e w1 ⟨rfl, hb1⟩) | (go_at_call 47; refine (C2.out _ ((HVr.out).keep hb1)).mono ?_; rintro e w2 ⟨rfl, hb2⟩; have hown2 := (own_keep (own_keep hown hb1) hb2); have hbw2 : Below w.heap.size w w2 := hbw.trans ((Below.tr hb1 hb2).mono hbw.size)) | (at_builtin; refine wpList_append_row rfl (.tmp 25) (.tmp 27) rfl E w.heap.size _ K.length _ rfl (hown2.alloc _) _ 1 [.int .u32 n] rfl (Row.one _ _ _) (one_u32 _) (by unfold maxLen; omega) (by omega) (Nat.le_trans hbw2.size (by simp)) (K.length + 1) rfl ?_; intro A3 c3 w3 hown3 hg3 hat3 hb3))
          go_roundw
          case rel => exact ⟨K ++ [n], A3, c3, true, b, rfl, by simp, rfl, by simpa using hown3, HD, HK2, by simp; omega, (hbw2.alloc hbw2.size _).trans hb3⟩
          case measure => have := HZ.out; simp; omega
      · cases hn : numW 4294967295 rest with
        | none =>
          have HD := Go.Lib.hid (show R = none by rw [hat2]; exact toCome_bad hsp hn)
          have C1 := Go.Lib.hid (CC.out rest hc (by omega))
          have C2 := Go.Lib.hid (fun W (h : ErrVars W) => numV_none hn ▸ CN.out rest (by omega) W h)
          clear hn hc hsp hat2 hat
          go_wp2_with (first | (go_at_call 44; refine (C1.out _ HVr.out).mono ?_; rintro e w1 ⟨rfl, hb1⟩) | (go_at_call 47; refine (C2.out _ ((HVr.out).keep hb1)).mono ?_; rintro e w2 ⟨rfl, hb2⟩))
          go_ret2
          exact ⟨by rw [HD.out]; rfl, hbw.trans ((Below.tr hb1 hb2).mono hbw.size)⟩
        | some n =>
          have HD := Go.Lib.hid (show At s (K ++ [n]) false [] by unfold At; rw [← HR.out, hat2, toCome_last hsp hn]; rfl)
          have HK2 := Go.Lib.hid (show ∀ m ∈ K ++ [n], m < 4294967296 from fun m hm => by
            rcases List.mem_append.1 hm with h | h
            · exact hK.out m h
            · rw [List.mem_singleton.1 h]; exact bound_numW hn)
          have C1 := Go.Lib.hid (CC.out rest hc (by omega))
          have C2 := Go.Lib.hid (fun W (h : ErrVars W) => numV_some hn ▸ CN.out rest (by omega) W h)
          have HZ := Go.Lib.hid (show 0 < rest.length from by
            cases rest with
            | nil => simp [numW] at hn
            | cons c r => simp)
          clear hn hc hsp hat2 hat
          go_wp2_with (first | (go_at_call 44; refine (C1.out _ HVr.out).mono ?_; rintro e w1 ⟨rfl, hb1⟩) | (go_at_call 47; refine (C2.out _ ((HVr.out).keep hb1)).mono ?_; rintro e w2 ⟨rfl, hb2⟩; have hown2 := (own_keep (own_keep hown hb1) hb2); have hbw2 : Below w.heap.size w w2 := hbw.trans ((Below.tr hb1 hb2).mono hbw.size)) | (at_builtin; refine wpList_append_row rfl (.tmp 25) (.tmp 27) rfl E w.heap.size _ K.length _ rfl (hown2.alloc _) _ 1 [.int .u32 n] rfl (Row.one _ _ _) (one_u32 _) (by unfold maxLen; omega) (by omega) (Nat.le_trans hbw2.size (by simp)) (K.length + 1) rfl ?_; intro A3 c3 w3 hown3 hg3 hat3 hb3))
          go_roundw
          case rel => exact ⟨K ++ [n], A3, c3, false, [], rfl, by simp, rfl, by simpa using hown3, HD, HK2, by have := HZ.out; simp; omega, (hbw2.alloc hbw2.size _).trans hb3⟩
          case measure => simp

theorem parse_any (s : List UInt8) (w : World) (hlen : s.length ≤ 1000000) (hv : ErrVars w) : Calls Tryz.prog 33 #[.string (strOf s)] w (Parsed (readL 4294967295 s) w) := by
  unfold readL
  by_cases h : s = [45]
  · rw [if_pos h, h]; exact parse_bar w
  · rw [if_neg h]; exact parse_list s w h hlen hv
end Go.Proofs.YtcdbeljmniaofaaGreatDoor.Nums


/- asn's Parse: the numbers that it reads lie in memory of its own. -/
namespace Go.Proofs.YtcdbeljmniaofaaGreatDoor.Nums
open Go.RowKit Mem Pfx Dec

/-- What Parse tells of a text, and where. -/
def ParsedF (r : Option (List Nat)) (w : World) (e : Ending) (w' : World) : Prop :=
  (match r with
  | some l => ∃ A c, e = .returned (.tuple #[.slice A l.length c, .int .i64 0]) ∧ U32s w' (.slice A l.length c) l ∧ w'.ownsRow w.heap.size 29 1 (.slice A l.length c) l.length (l.map fun n : Nat => Value.int .u32 n)
  | none => e = .returned (.tuple #[.slice none 0 0, .int .i64 2])) ∧ Below w.heap.size w w'

set_option maxRecDepth 100000 in
set_option maxHeartbeats 4000000 in
theorem parse_listF (s : List UInt8) (w : World) (hs : s ≠ [45]) (hlen : s.length ≤ 1000000) (hv : ErrVars w) : Calls Tryz.prog 33 #[.string (strOf s)] w (ParsedF ((splitS s).mapM (numW 4294967295)) w) := by
  obtain ⟨i, E⟩ := elem32
  have HV := Go.Lib.hid hv
  have ht : ((strOf s).toList == [45]) = false := by rw [toList_strOf]; simpa using hs
  have CC := Go.Lib.hid @cut_any
  have CN := Go.Lib.hid number_any
  obtain ⟨R, hR⟩ : ∃ R, R = (splitS s).mapM (numW 4294967295) := ⟨_, rfl⟩
  rw [← hR]
  have HR := Go.Lib.hid hR
  clear hv hs hR
  go_enter Tryz.func33, Tryz.ntmps33
  go_wp2
  go_loopw [0, 4, 5, 6, 7, 8] (fun v0 v4 v5 _ _ _ wr => ∃ (K : List Nat) (A' : Option Addr) (c' : Nat) (more : Bool) (rest : List UInt8), v0 = .string (strOf rest) ∧ v4 = .slice A' K.length c' ∧ v5 = .bool more ∧ wr.ownsRow w.heap.size 29 1 (.slice A' K.length c') K.length (K.map fun n : Nat => Value.int .u32 n) ∧ Hid (At s K more rest) ∧ Hid (∀ n ∈ K, n < 4294967296) ∧ K.length + rest.length ≤ 1000000 ∧ Below w.heap.size w wr)
    (fun v0 _ v5 _ _ _ _ => match v0, v5 with | .string t, .bool true => t.size + 1 | _, _ => 0)
  case atStart => exact ⟨[], none, 0, true, s, rfl, rfl, rfl, World.ownsRow_nil _ _ _ _, by unfold Hid At; rw [if_pos rfl, toCome_start], by unfold Hid; simp, by simpa using hlen, Below.refl _ _⟩
  case round =>
    obtain ⟨K, A', c', more, rest, rfl, rfl, rfl, hown, hat, hK, hKl, hbw⟩ := hrel
    have HVr := Go.Lib.hid ((HV.out).keep hbw)
    cases more with
    | false =>
      have HD := Go.Lib.hid (show R = some K by rw [HR.out]; have := hat.out; unfold At at this; simpa using this)
      have HU := Go.Lib.hid (U32s.of_own hown hK.out)
      go_wp2
      go_ret2
      exact ⟨by rw [HD.out]; exact ⟨A', c', rfl, HU.out, hown⟩, hbw⟩
    | true =>
      have hat2 : R = toCome K rest := by rw [HR.out]; have := hat.out; unfold At at this; simpa using this
      rcases cut_blank rest with ⟨a, b, hc, hsp, hl⟩ | ⟨hc, hsp⟩
      · cases hn : numW 4294967295 a with
        | none =>
          have HD := Go.Lib.hid (show R = none by rw [hat2]; exact toCome_bad hsp hn)
          have C1 := Go.Lib.hid (CC.out rest hc (by omega))
          have C2 := Go.Lib.hid (fun W (h : ErrVars W) => numV_none hn ▸ CN.out a (by omega) W h)
          clear hn hc hsp hat2 hat
          go_wp2_with (first | (go_at_call 44; refine (C1.out _ HVr.out).mono ?_; rintro e w1 ⟨rfl, hb1⟩) | (go_at_call 47; refine (C2.out _ ((HVr.out).keep hb1)).mono ?_; rintro e w2 ⟨rfl, hb2⟩))
          go_ret2
          exact ⟨by rw [HD.out]; rfl, hbw.trans ((Below.tr hb1 hb2).mono hbw.size)⟩
        | some n =>
          have HD := Go.Lib.hid (show At s (K ++ [n]) true b by unfold At; rw [if_pos rfl, ← HR.out, hat2, toCome_more hsp hn])
          have HK2 := Go.Lib.hid (show ∀ m ∈ K ++ [n], m < 4294967296 from fun m hm => by
            rcases List.mem_append.1 hm with h | h
            · exact hK.out m h
            · rw [List.mem_singleton.1 h]; exact bound_numW hn)
          have C1 := Go.Lib.hid (CC.out rest hc (by omega))
          have C2 := Go.Lib.hid (fun W (h : ErrVars W) => numV_some hn ▸ CN.out a (by omega) W h)
          have HZ := Go.Lib.hid (show (strOf b).size < (strOf rest).size by rw [strOf_size, strOf_size]; omega)
          clear hn hc hsp hat2 hat
          go_wp2_with (first | (go_at_call 44; refine (C1.out _ HVr.out).mono ?_; rintro e w1 ⟨rfl, hb1⟩) | (go_at_call 47; refine (C2.out _ ((HVr.out).keep hb1)).mono ?_; rintro e w2 ⟨rfl, hb2⟩; have hown2 := (own_keep (own_keep hown hb1) hb2); have hbw2 : Below w.heap.size w w2 := hbw.trans ((Below.tr hb1 hb2).mono hbw.size)) | (at_builtin; refine wpList_append_row rfl (.tmp 25) (.tmp 27) rfl E w.heap.size _ K.length _ rfl (hown2.alloc _) _ 1 [.int .u32 n] rfl (Row.one _ _ _) (one_u32 _) (by unfold maxLen; omega) (by omega) (Nat.le_trans hbw2.size (by simp)) (K.length + 1) rfl ?_; intro A3 c3 w3 hown3 hg3 hat3 hb3))
          go_roundw
          case rel => exact ⟨K ++ [n], A3, c3, true, b, rfl, by simp, rfl, by simpa using hown3, HD, HK2, by simp; omega, (hbw2.alloc hbw2.size _).trans hb3⟩
          case measure => have := HZ.out; simp; omega
      · cases hn : numW 4294967295 rest with
        | none =>
          have HD := Go.Lib.hid (show R = none by rw [hat2]; exact toCome_bad hsp hn)
          have C1 := Go.Lib.hid (CC.out rest hc (by omega))
          have C2 := Go.Lib.hid (fun W (h : ErrVars W) => numV_none hn ▸ CN.out rest (by omega) W h)
          clear hn hc hsp hat2 hat
          go_wp2_with (first | (go_at_call 44; refine (C1.out _ HVr.out).mono ?_; rintro e w1 ⟨rfl, hb1⟩) | (go_at_call 47; refine (C2.out _ ((HVr.out).keep hb1)).mono ?_; rintro e w2 ⟨rfl, hb2⟩))
          go_ret2
          exact ⟨by rw [HD.out]; rfl, hbw.trans ((Below.tr hb1 hb2).mono hbw.size)⟩
        | some n =>
          have HD := Go.Lib.hid (show At s (K ++ [n]) false [] by unfold At; rw [← HR.out, hat2, toCome_last hsp hn]; rfl)
          have HK2 := Go.Lib.hid (show ∀ m ∈ K ++ [n], m < 4294967296 from fun m hm => by
            rcases List.mem_append.1 hm with h | h
            · exact hK.out m h
            · rw [List.mem_singleton.1 h]; exact bound_numW hn)
          have C1 := Go.Lib.hid (CC.out rest hc (by omega))
          have C2 := Go.Lib.hid (fun W (h : ErrVars W) => numV_some hn ▸ CN.out rest (by omega) W h)
          have HZ := Go.Lib.hid (show 0 < rest.length from by
            cases rest with
            | nil => simp [numW] at hn
            | cons c r => simp)
          clear hn hc hsp hat2 hat
          go_wp2_with (first | (go_at_call 44; refine (C1.out _ HVr.out).mono ?_; rintro e w1 ⟨rfl, hb1⟩) | (go_at_call 47; refine (C2.out _ ((HVr.out).keep hb1)).mono ?_; rintro e w2 ⟨rfl, hb2⟩; have hown2 := (own_keep (own_keep hown hb1) hb2); have hbw2 : Below w.heap.size w w2 := hbw.trans ((Below.tr hb1 hb2).mono hbw.size)) | (at_builtin; refine wpList_append_row rfl (.tmp 25) (.tmp 27) rfl E w.heap.size _ K.length _ rfl (hown2.alloc _) _ 1 [.int .u32 n] rfl (Row.one _ _ _) (one_u32 _) (by unfold maxLen; omega) (by omega) (Nat.le_trans hbw2.size (by simp)) (K.length + 1) rfl ?_; intro A3 c3 w3 hown3 hg3 hat3 hb3))
          go_roundw
          case rel => exact ⟨K ++ [n], A3, c3, false, [], rfl, by simp, rfl, by simpa using hown3, HD, HK2, by have := HZ.out; simp; omega, (hbw2.alloc hbw2.size _).trans hb3⟩
          case measure => simp

end Go.Proofs.YtcdbeljmniaofaaGreatDoor.Nums
