/- Plain mathematics: how a session is opened, an bytes, and what bytes tell. It speaks of no function of the program. -/
import Derived.Test.YtkkfnpacejdlnaaOctBack
import Derived.Test.YtkkfnpacejdlnaaAttrTold
namespace Go.Proofs.Ytkkfnpacejdlnaa.Opn
open Oct Att

/-- An Open. -/
structure Op where
  an : Nat
  hold : Int
  ri : Nat
  four : Bool
def Op.ok (o : Op) : Prop := o.an < 4294967296 ∧ (Lit.int .i64 o.hold).wf = true ∧ o.ri < 4294967296
def zeroO : Op := ⟨0, 0, 0, false⟩
def holdsB (n : Int) : Bool := decide (n = 0) || (decide (2 < n) && decide (n < 65536))
def goodO (o : Op) : Bool := decide (o.an ≠ 0) && decide (o.ri ≠ 0) && holdsB o.hold && (o.four || decide (o.an < 65536))
/-- The number of two bytes. -/
def shortN (n : Nat) : Nat := if 65535 < n then 23456 else n
def encO (o : Op) : List Nat := [4] ++ big (shortN o.an) 2 ++ big o.hold.toNat 2 ++ big o.ri 4 ++ (if o.four then [8, 2, 6, 65, 4] ++ big o.an 4 else [0])
/-- The capabilities of one parameter; what is left is given how much at most. -/
def capsO : Nat → Op → List Nat → Option Op
  | 0, o, b => if b = [] then some o else none
  | n + 1, o, b => match b with
    | [] => some o
    | c :: m :: r => if m ≤ r.length then (if c = 65 then (if m = 4 ∧ val (r.take m) ≠ 0 then capsO n ⟨val (r.take m), o.hold, o.ri, true⟩ (r.drop m) else none) else capsO n o (r.drop m)) else none
    | _ => none
/-- The parameters. -/
def parsO : Nat → Op → List Nat → Nat ⊕ Op
  | 0, o, b => if b = [] then .inr o else .inl 0
  | n + 1, o, b => match b with
    | [] => .inr o
    | t :: m :: r => if m ≤ r.length then (if t = 2 then (match capsO m o (r.take m) with | some o2 => parsO n o2 (r.drop m) | none => .inl 0) else .inl 4) else .inl 0
    | _ => .inl 0
def noO (s : Nat) : No := ⟨2, s, if s = 1 then [0, 4] else []⟩
/-- The Open of bytes, or the subcode of the first error. -/
def headO (b : List Nat) : Op := ⟨val ((b.drop 1).take 2), (val ((b.drop 3).take 2) : Nat), val ((b.drop 5).take 4), false⟩
def decO (b : List Nat) : Nat ⊕ Op :=
  if b.length < 10 then .inl 0
  else if b[0]? ≠ some 4 then .inl 1
  else if (headO b).an = 0 then .inl 2
  else if holdsB (headO b).hold = false then .inl 6
  else if (headO b).ri = 0 then .inl 3
  else if b[9]? ≠ some (b.length - 10) then .inl 0
  else parsO (b.length - 10) (headO b) (b.drop 10)
def outO : Nat ⊕ Op → Op × No
  | .inl s => (zeroO, noO s)
  | .inr o => (o, ⟨0, 0, []⟩)
theorem capsO_fuel : ∀ (n m : Nat) (o : Op) (b : List Nat), b.length ≤ n → b.length ≤ m → capsO n o b = capsO m o b
  | 0, 0, _, _, _, _ => rfl
  | 0, m + 1, o, b, h, _ => by
    obtain rfl := List.eq_nil_of_length_eq_zero (Nat.le_zero.1 h)
    rfl
  | n + 1, 0, o, b, _, h => by
    obtain rfl := List.eq_nil_of_length_eq_zero (Nat.le_zero.1 h)
    rfl
  | n + 1, m + 1, o, b, hn, hm => by
    match b, hn, hm with
    | [], _, _ => rfl
    | [_], _, _ => rfl
    | c :: k :: r, hn, hm =>
      simp only [List.length_cons] at hn hm
      unfold capsO
      dsimp only
      have hd : (r.drop k).length ≤ r.length := by rw [List.length_drop]; omega
      rw [capsO_fuel n m _ (r.drop k) (by omega) (by omega), capsO_fuel n m o (r.drop k) (by omega) (by omega)]
theorem parsO_fuel : ∀ (n m : Nat) (o : Op) (b : List Nat), b.length ≤ n → b.length ≤ m → parsO n o b = parsO m o b
  | 0, 0, _, _, _, _ => rfl
  | 0, m + 1, o, b, h, _ => by
    obtain rfl := List.eq_nil_of_length_eq_zero (Nat.le_zero.1 h)
    rfl
  | n + 1, 0, o, b, _, h => by
    obtain rfl := List.eq_nil_of_length_eq_zero (Nat.le_zero.1 h)
    rfl
  | n + 1, m + 1, o, b, hn, hm => by
    match b, hn, hm with
    | [], _, _ => rfl
    | [_], _, _ => rfl
    | c :: k :: r, hn, hm =>
      simp only [List.length_cons] at hn hm
      unfold parsO
      dsimp only
      have hd : (r.drop k).length ≤ r.length := by rw [List.length_drop]; omega
      have e : ∀ o2, parsO n o2 (r.drop k) = parsO m o2 (r.drop k) := fun o2 => parsO_fuel n m o2 (r.drop k) (by omega) (by omega)
      simp only [e]
/-- From here on. -/
def caps (o : Op) (b : List Nat) : Option Op := capsO b.length o b
def pars (o : Op) (b : List Nat) : Nat ⊕ Op := parsO b.length o b
theorem caps_nil (o : Op) : caps o [] = some o := rfl
theorem caps_one (o : Op) (x : Nat) : caps o [x] = none := rfl
theorem caps_step (o : Op) (c m : Nat) (r : List Nat) : caps o (c :: m :: r) = if m ≤ r.length then (if c = 65 then (if m = 4 ∧ val (r.take m) ≠ 0 then caps ⟨val (r.take m), o.hold, o.ri, true⟩ (r.drop m) else none) else caps o (r.drop m)) else none := by
  have hd : (r.drop m).length ≤ r.length := by rw [List.length_drop]; omega
  unfold caps
  show capsO (r.length + 1 + 1) o _ = _
  rw [capsO]
  rw [capsO_fuel (r.length + 1) (r.drop m).length _ (r.drop m) (by omega) (Nat.le_refl _), capsO_fuel (r.length + 1) (r.drop m).length o (r.drop m) (by omega) (Nat.le_refl _)]
theorem pars_nil (o : Op) : pars o [] = .inr o := rfl
theorem pars_one (o : Op) (x : Nat) : pars o [x] = .inl 0 := rfl
theorem pars_step (o : Op) (t m : Nat) (r : List Nat) : pars o (t :: m :: r) = if m ≤ r.length then (if t = 2 then (match caps o (r.take m) with | some o2 => pars o2 (r.drop m) | none => .inl 0) else .inl 4) else .inl 0 := by
  have hd : (r.drop m).length ≤ r.length := by rw [List.length_drop]; omega
  unfold pars caps
  show parsO (r.length + 1 + 1) o _ = _
  rw [parsO]
  have e : ∀ o2, parsO (r.length + 1) o2 (r.drop m) = parsO (r.drop m).length o2 (r.drop m) := fun o2 => parsO_fuel _ _ o2 (r.drop m) (by omega) (Nat.le_refl _)
  by_cases hm : m ≤ r.length
  · rw [if_pos hm, if_pos hm]
    by_cases ht : t = 2
    · rw [if_pos ht, if_pos ht, capsO_fuel m (r.take m).length o (r.take m) (by rw [List.length_take]; omega) (Nat.le_refl _)]
      simp only [e]
    · rw [if_neg ht, if_neg ht]
  · rw [if_neg hm, if_neg hm]
theorem decO_is (b : List Nat) : decO b = if b.length < 10 then .inl 0 else if b[0]? ≠ some 4 then .inl 1 else if (headO b).an = 0 then .inl 2 else if holdsB (headO b).hold = false then .inl 6 else if (headO b).ri = 0 then .inl 3 else if b[9]? ≠ some (b.length - 10) then .inl 0 else pars (headO b) (b.drop 10) := by
  unfold decO pars
  rw [List.length_drop]
/-- What a good Open is written an is read an it is. -/
theorem dec_encO {o : Op} (h : goodO o = true) (hok : o.ok) : decO (encO o) = .inr o := by
  obtain ⟨an, hold, ri, four⟩ := o
  obtain ⟨h1, -, h3⟩ := hok
  unfold goodO holdsB at h
  simp only [Bool.and_eq_true, Bool.or_eq_true, decide_eq_true_eq] at h
  dsimp only at h1 h3 h
  obtain ⟨⟨⟨g1, g2⟩, g3⟩, g4⟩ := h
  obtain ⟨n, rfl⟩ := Int.eq_ofNat_of_zero_le (show 0 ≤ hold by omega)
  have hn : n < 65536 := by omega
  have hs : shortN an < 65536 ∧ shortN an ≠ 0 := by unfold shortN; split <;> omega
  have hb : holdsB (n : Int) = true := by unfold holdsB; simp only [Bool.or_eq_true, Bool.and_eq_true, decide_eq_true_eq]; omega
  have v2 := val_big2 hs.1
  have v3 := val_big2 hn
  have v4 := val_big4 h3
  have v5 := val_big4 h1
  rw [big2] at v2 v3
  rw [big4] at v4 v5
  cases four with
  | true =>
    have e : encO ⟨an, (n : Int), ri, true⟩ = 4 :: (shortN an / 256 % 256) :: (shortN an % 256) :: (n / 256 % 256) :: (n % 256) :: (ri / 16777216 % 256) :: (ri / 65536 % 256) :: (ri / 256 % 256) :: (ri % 256) :: 8 :: 2 :: 6 :: 65 :: 4 :: (an / 16777216 % 256) :: (an / 65536 % 256) :: (an / 256 % 256) :: (an % 256) :: [] := by
      simp [encO, big2, big4]
    rw [e, decO_is]
    simp only [headO, List.drop_succ_cons, List.drop_zero, List.take_succ_cons, List.take_zero, v2, v3, v4]
    rw [if_neg (by simp), if_neg (by simp), if_neg hs.2, if_neg (by rw [hb]; decide), if_neg g2, if_neg (by simp), pars_step, if_pos (by simp), if_pos rfl]
    simp only [List.take_succ_cons, List.take_zero, List.drop_succ_cons, List.drop_zero]
    rw [caps_step, if_pos (by simp), if_pos rfl]
    simp only [List.take_succ_cons, List.take_zero, List.drop_succ_cons, List.drop_zero, v5]
    rw [if_pos ⟨trivial, g1⟩, caps_nil]
    rfl
  | false =>
    have g5 : an < 65536 := by simpa using g4
    have e : encO ⟨an, (n : Int), ri, false⟩ = 4 :: (an / 256 % 256) :: (an % 256) :: (n / 256 % 256) :: (n % 256) :: (ri / 16777216 % 256) :: (ri / 65536 % 256) :: (ri / 256 % 256) :: (ri % 256) :: 0 :: [] := by
      have e2 : shortN an = an := by unfold shortN; rw [if_neg (by omega)]
      simp [encO, big2, big4, e2]
    have e2 : shortN an = an := by unfold shortN; rw [if_neg (by omega)]
    rw [e2] at v2
    rw [e, decO_is]
    simp only [headO, List.drop_succ_cons, List.drop_zero, List.take_succ_cons, List.take_zero, v2, v3, v4]
    rw [if_neg (by simp), if_neg (by simp), if_neg g1, if_neg (by rw [hb]; decide), if_neg g2, if_neg (by simp), pars_nil]
end Go.Proofs.Ytkkfnpacejdlnaa.Opn
