/- Plain mathematics of texts: decimal numbers of at most three digits, what stands before and behind a sign, addresses and prefixes as texts and back. It imports nothing of the program. -/
import Derived.Test.YtplolahbjebbaaaDoorPfxMath
import Derived.Lib.ItoaNum
import Derived.Lib.IndexMore
import Derived.Lib.IndexBytes
namespace Go.Proofs.YtplolahbjebbaaaDoor.Pfx

/-- The decimal digits of a number. -/
abbrev dec (n : Nat) : List UInt8 := Lib.decDigits n
theorem dec_one {n : Nat} (h : n < 10) : dec n = [UInt8.ofNat (48 + n)] := Lib.decDigits_one h
theorem dec_step {n : Nat} (h : ¬ n < 10) : dec n = dec (n / 10) ++ [UInt8.ofNat (48 + n % 10)] := by
  show Lib.decDigits n = _
  rw [Lib.decDigits, dif_neg h]
theorem dec_two {n : Nat} (h : ¬ n < 10) (h2 : n < 100) : dec n = [UInt8.ofNat (48 + n / 10), UInt8.ofNat (48 + n % 10)] := by
  rw [dec_step h, dec_one (by omega)]; rfl
theorem dec_three {n : Nat} (h : ¬ n < 100) (h2 : n < 1000) : dec n = [UInt8.ofNat (48 + n / 100), UInt8.ofNat (48 + n / 10 % 10), UInt8.ofNat (48 + n % 10)] := by
  rw [dec_step (by omega), dec_two (by omega) (by omega), Nat.div_div_eq_div_mul]; rfl
theorem dec_len (n : Nat) (h : n < 1000) : (dec n).length ≤ 3 := by
  by_cases h1 : n < 10
  · rw [dec_one h1]; simp
  · by_cases h2 : n < 100
    · rw [dec_two h1 h2]; simp
    · rw [dec_three h2 h]; simp
theorem dec_itoa (n : Nat) : Lib.itoa (n : Int) = dec n := by unfold Lib.itoa; rw [if_neg (by omega)]; rfl

/-- A digit's value, and the value of digits. -/
def dig (c : UInt8) : Bool := decide (48 ≤ c.toNat) && decide (c.toNat ≤ 57)
def val (l : List UInt8) : Nat := l.foldl (fun n c => n * 10 + (c.toNat - 48)) 0
theorem val_snoc (l : List UInt8) (c : UInt8) : val (l ++ [c]) = val l * 10 + (c.toNat - 48) := by unfold val; rw [List.foldl_append]; rfl
theorem dig_of {d : Nat} (h : d < 10) : dig (UInt8.ofNat (48 + d)) = true ∧ (UInt8.ofNat (48 + d)).toNat = 48 + d := by
  have e : (UInt8.ofNat (48 + d)).toNat = 48 + d := by rw [UInt8.toNat_ofNat']; omega
  refine ⟨?_, e⟩
  unfold dig; rw [e]; simp; omega
theorem of_dig {c : UInt8} (h : dig c = true) : 48 ≤ c.toNat ∧ c.toNat ≤ 57 ∧ ∀ k, k = c.toNat → UInt8.ofNat k = c := by
  unfold dig at h
  simp only [Bool.and_eq_true, decide_eq_true_eq] at h
  exact ⟨h.1, h.2, fun k hk => by rw [hk]; exact UInt8.ofNat_toNat⟩

/-- What 'number' reads. -/
def shapeB (l : List UInt8) : Bool := !(l.length == 0) && decide (l.length ≤ 3) && !(decide (1 < l.length) && (l.getD 0 0 == 48))
def numP (most : Nat) (l : List UInt8) : Option Nat := if shapeB l && l.all dig && decide (val l ≤ most) then some (val l) else none

theorem numP_parts {most n : Nat} {l : List UInt8} (h : numP most l = some n) : shapeB l = true ∧ l.all dig = true ∧ val l ≤ most ∧ n = val l := by
  unfold numP at h
  split at h
  · rename_i hc
    simp only [Bool.and_eq_true, decide_eq_true_eq] at hc
    exact ⟨hc.1.1, hc.1.2, hc.2, (Option.some.inj h).symm⟩
  · cases h

theorem dec_val : ∀ {l : List UInt8}, shapeB l = true → l.all dig = true → dec (val l) = l ∧ val l < 1000
  | [], h, _ => by simp [shapeB] at h
  | [c], _, hd => by
    simp only [List.all_cons, List.all_nil, Bool.and_true] at hd
    obtain ⟨h1, h2, h3⟩ := of_dig hd
    have e : val [c] = c.toNat - 48 := by simp [val]
    rw [e, dec_one (by omega), h3 _ (by omega)]
    exact ⟨rfl, by omega⟩
  | [c, d], hs, hd => by
    simp only [List.all_cons, List.all_nil, Bool.and_true, Bool.and_eq_true] at hd
    obtain ⟨h1, h2, h3⟩ := of_dig hd.1
    obtain ⟨g1, g2, g3⟩ := of_dig hd.2
    have hne : c ≠ 48 := by simpa [shapeB] using hs
    have hn : c.toNat ≠ 48 := fun h => hne (UInt8.toNat_inj.1 h)
    have e : val [c, d] = (c.toNat - 48) * 10 + (d.toNat - 48) := by simp [val]
    rw [e, dec_two (by omega) (by omega), h3 _ (by omega), g3 _ (by omega)]
    exact ⟨rfl, by omega⟩
  | [c, d, f], hs, hd => by
    simp only [List.all_cons, List.all_nil, Bool.and_true, Bool.and_eq_true] at hd
    obtain ⟨h1, h2, h3⟩ := of_dig hd.1
    obtain ⟨g1, g2, g3⟩ := of_dig hd.2.1
    obtain ⟨f1, f2, f3⟩ := of_dig hd.2.2
    have hne : c ≠ 48 := by simpa [shapeB] using hs
    have hn : c.toNat ≠ 48 := fun h => hne (UInt8.toNat_inj.1 h)
    have e : val [c, d, f] = ((c.toNat - 48) * 10 + (d.toNat - 48)) * 10 + (f.toNat - 48) := by simp [val]
    rw [e, dec_three (by omega) (by omega), h3 _ (by omega), g3 _ (by omega), f3 _ (by omega)]
    exact ⟨rfl, by omega⟩
  | _ :: _ :: _ :: _ :: _, h, _ => by
    simp only [shapeB, List.length_cons, Bool.and_eq_true, decide_eq_true_eq] at h
    omega

theorem numP_sound {most n : Nat} {l : List UInt8} (h : numP most l = some n) : l = dec n ∧ n ≤ most ∧ n < 1000 := by
  obtain ⟨h1, h2, h3, rfl⟩ := numP_parts h
  obtain ⟨e, hl⟩ := dec_val h1 h2
  exact ⟨e.symm, h3, hl⟩

theorem back_one {c : UInt8} {x : Nat} (a : dig c = true) (b : c.toNat = 48 + x) : shapeB [c] = true ∧ [c].all dig = true ∧ val [c] = x :=
  ⟨by simp [shapeB], by simp [a], by simp only [val, List.foldl]; omega⟩
theorem back_two {c d : UInt8} {x y : Nat} (a : dig c = true) (b : c.toNat = 48 + x) (e : dig d = true) (f : d.toNat = 48 + y) (h : 0 < x) : shapeB [c, d] = true ∧ [c, d].all dig = true ∧ val [c, d] = x * 10 + y := by
  have hne : c ≠ 48 := fun k => by rw [k] at b; simp at b; omega
  exact ⟨by simp [shapeB, hne], by simp [a, e], by simp only [val, List.foldl]; omega⟩
theorem back_three {c d g : UInt8} {x y z : Nat} (a : dig c = true) (b : c.toNat = 48 + x) (e : dig d = true) (f : d.toNat = 48 + y) (k : dig g = true) (m : g.toNat = 48 + z) (h : 0 < x) : shapeB [c, d, g] = true ∧ [c, d, g].all dig = true ∧ val [c, d, g] = (x * 10 + y) * 10 + z := by
  have hne : c ≠ 48 := fun k => by rw [k] at b; simp at b; omega
  exact ⟨by simp [shapeB, hne], by simp [a, e, k], by simp only [val, List.foldl]; omega⟩
theorem dec_back (n : Nat) (h : n < 1000) : shapeB (dec n) = true ∧ (dec n).all dig = true ∧ val (dec n) = n := by
  by_cases h1 : n < 10
  · rw [dec_one h1]
    obtain ⟨a, b⟩ := dig_of h1
    exact back_one a b
  · by_cases h2 : n < 100
    · rw [dec_two h1 h2]
      obtain ⟨a, b⟩ := dig_of (show n / 10 < 10 by omega)
      obtain ⟨c, d⟩ := dig_of (show n % 10 < 10 by omega)
      obtain ⟨r1, r2, r3⟩ := back_two a b c d (by omega)
      exact ⟨r1, r2, by rw [r3]; omega⟩
    · rw [dec_three h2 h]
      obtain ⟨a, b⟩ := dig_of (show n / 100 < 10 by omega)
      obtain ⟨c, d⟩ := dig_of (show n / 10 % 10 < 10 by omega)
      obtain ⟨e, f⟩ := dig_of (show n % 10 < 10 by omega)
      obtain ⟨r1, r2, r3⟩ := back_three a b c d e f (by omega)
      exact ⟨r1, r2, by rw [r3]; omega⟩
theorem numP_dec {most n : Nat} (h : n ≤ most) (h2 : n < 1000) : numP most (dec n) = some n := by
  obtain ⟨a, b, c⟩ := dec_back n h2
  unfold numP
  rw [a, b, c, decide_eq_true h]; rfl
theorem dec_ne (n : Nat) (h : n < 1000) : dec n ≠ [] := by
  intro e
  have := (dec_back n h).1
  rw [e] at this; simp [shapeB] at this
/-- No sign but digits stands in a number's text. -/
theorem dec_mem {n : Nat} (h : n < 1000) {c : UInt8} (hc : c ∈ dec n) : 48 ≤ c.toNat :=
  (of_dig (List.all_eq_true.1 (dec_back n h).2.1 c hc)).1

theorem indexByte_at : ∀ (a b : List UInt8) (c : UInt8), c ∉ a → Lib.indexByte (a ++ c :: b) c = a.length
  | [], b, c, _ => by simp [Lib.indexByte]
  | x :: a, b, c, h => by
    have h1 : ¬ x = c := fun e => h (e ▸ List.mem_cons_self ..)
    have h2 := indexByte_at a b c fun hm => h (List.mem_cons_of_mem _ hm)
    rw [List.cons_append, Lib.indexByte, if_neg (by simpa using h1), h2, if_neg (by simp)]
    simp
theorem indexByte_not : ∀ (a : List UInt8) (c : UInt8), c ∉ a → Lib.indexByte a c = -1
  | [], c, _ => rfl
  | x :: a, c, h => by
    have h1 : ¬ x = c := fun e => h (e ▸ List.mem_cons_self ..)
    rw [Lib.indexByte, if_neg (by simpa using h1), indexByte_not a c fun hm => h (List.mem_cons_of_mem _ hm)]; rfl
theorem cut_found {a b : List UInt8} {c : UInt8} (h : c ∉ a) : Lib.cut (a ++ c :: b) [c] = (a, b, true) := by
  unfold Lib.cut
  rw [Lib.index_one, indexByte_at a b c h, if_pos (by omega)]
  simp
theorem cut_none {a : List UInt8} {c : UInt8} (h : c ∉ a) : Lib.cut a [c] = (a, [], false) := by
  unfold Lib.cut
  rw [Lib.index_one, indexByte_not a c h, if_neg (by omega)]
theorem cut_cases (l : List UInt8) (c : UInt8) : (∃ a b, l = a ++ c :: b ∧ c ∉ a ∧ Lib.cut l [c] = (a, b, true)) ∨ (c ∉ l ∧ Lib.cut l [c] = (l, [], false)) := by
  by_cases h : c ∈ l
  · obtain ⟨a, b, e, hn⟩ := List.eq_append_cons_of_mem h
    exact .inl ⟨a, b, e, hn, by rw [e]; exact cut_found hn⟩
  · exact .inr ⟨h, cut_none h⟩

/-- What 'ParseAddr' reads: r parts are still to come. -/
def stepAddr : Nat → List UInt8 → Nat → Option Nat
  | 0, _, acc => some acc
  | r + 1, s, acc =>
    match numP 255 (Lib.cut s [46]).1 with
    | none => none
    | some n => if ((Lib.cut s [46]).2.2 != decide (0 < r)) then none else stepAddr r (Lib.cut s [46]).2.1 (acc + n * 256 ^ r)

theorem stepAddr_more {r : Nat} {s : List UInt8} {acc a : Nat} (h : stepAddr (r + 2) s acc = some a) : ∃ n rest, n ≤ 255 ∧ s = dec n ++ 46 :: rest ∧ stepAddr (r + 1) rest (acc + n * 256 ^ (r + 1)) = some a := by
  rw [stepAddr] at h
  split at h
  · cases h
  · rename_i n hn
    obtain ⟨e, hl, _⟩ := numP_sound hn
    split at h
    · cases h
    · rename_i hp
      rcases cut_cases s 46 with ⟨x, y, es, _, ec⟩ | ⟨_, ec⟩
      · rw [ec] at h e
        exact ⟨n, y, hl, by rw [es]; simp only at e; rw [e], h⟩
      · rw [ec] at hp; simp at hp
theorem stepAddr_last {s : List UInt8} {acc a : Nat} (h : stepAddr 1 s acc = some a) : ∃ n, n ≤ 255 ∧ s = dec n ∧ a = acc + n := by
  rw [stepAddr] at h
  split at h
  · cases h
  · rename_i n hn
    obtain ⟨e, hl, _⟩ := numP_sound hn
    split at h
    · cases h
    · rename_i hp
      rcases cut_cases s 46 with ⟨x, y, es, _, ec⟩ | ⟨_, ec⟩
      · rw [ec] at hp; simp at hp
      · rw [ec] at h e
        refine ⟨n, hl, e, ?_⟩
        rw [stepAddr] at h
        have := Option.some.inj h
        simp at this; omega
theorem no_point (n : Nat) (h : n < 1000) : (46 : UInt8) ∉ dec n := fun hm => by have := dec_mem h hm; simp at this
theorem no_slash (n : Nat) (h : n < 1000) : (47 : UInt8) ∉ dec n := fun hm => by have := dec_mem h hm; simp at this
theorem stepAddr_more_mk {r n acc : Nat} {rest : List UInt8} (hn : n ≤ 255) : stepAddr (r + 2) (dec n ++ 46 :: rest) acc = stepAddr (r + 1) rest (acc + n * 256 ^ (r + 1)) := by
  rw [stepAddr, cut_found (no_point n (by omega)), numP_dec hn (by omega)]
  simp
theorem stepAddr_last_mk {n acc : Nat} (hn : n ≤ 255) : stepAddr 1 (dec n) acc = some (acc + n) := by
  rw [stepAddr, cut_none (no_point n (by omega)), numP_dec hn (by omega)]
  simp [stepAddr]

def byteN (a j : Nat) : Nat := a / 2 ^ (24 - 8 * j) % 256
theorem byteN_lt (a j : Nat) : byteN a j < 256 := Nat.mod_lt _ (by decide)
def addrPre (a : Nat) : Nat → List UInt8
  | 0 => []
  | j + 1 => addrPre a j ++ dec (byteN a j) ++ (if j < 3 then [46] else [])
theorem addrPre_len (a j : Nat) : (addrPre a j).length ≤ 4 * j := by
  induction j with
  | zero => simp [addrPre]
  | succ j ih =>
    have h := dec_len (byteN a j) (by have := byteN_lt a j; omega)
    unfold addrPre
    simp only [List.length_append]
    split <;> simp <;> omega
def addrT (a : Nat) : List UInt8 := addrPre a 4
def textT (a n : Nat) : List UInt8 := addrT a ++ 47 :: dec n

theorem addrT_form (a : Nat) : addrT a = dec (byteN a 0) ++ 46 :: (dec (byteN a 1) ++ 46 :: (dec (byteN a 2) ++ 46 :: dec (byteN a 3))) := by
  simp [addrT, addrPre]
theorem bytes_of (n3 n2 n1 n0 : Nat) (h3 : n3 ≤ 255) (h2 : n2 ≤ 255) (h1 : n1 ≤ 255) (h0 : n0 ≤ 255) : byteN (n3 * 16777216 + n2 * 65536 + n1 * 256 + n0) 0 = n3 ∧ byteN (n3 * 16777216 + n2 * 65536 + n1 * 256 + n0) 1 = n2 ∧ byteN (n3 * 16777216 + n2 * 65536 + n1 * 256 + n0) 2 = n1 ∧ byteN (n3 * 16777216 + n2 * 65536 + n1 * 256 + n0) 3 = n0 := by
  unfold byteN
  refine ⟨?_, ?_, ?_, ?_⟩ <;> simp <;> omega
theorem of_bytes (a : Nat) (h : a < 4294967296) : byteN a 0 * 16777216 + byteN a 1 * 65536 + byteN a 2 * 256 + byteN a 3 = a := by
  unfold byteN
  simp
  omega

/-- What is read as an address is just its text. -/
theorem parseAddr_sound {s : List UInt8} {a : Nat} (h : stepAddr 4 s 0 = some a) : a < 4294967296 ∧ s = addrT a := by
  obtain ⟨n3, r3, h3, e3, g3⟩ := stepAddr_more h
  obtain ⟨n2, r2, h2, e2, g2⟩ := stepAddr_more g3
  obtain ⟨n1, r1, h1, e1, g1⟩ := stepAddr_more g2
  obtain ⟨n0, h0, e0, g0⟩ := stepAddr_last g1
  have ea : a = n3 * 16777216 + n2 * 65536 + n1 * 256 + n0 := by rw [g0]; omega
  obtain ⟨b3, b2, b1, b0⟩ := bytes_of n3 n2 n1 n0 h3 h2 h1 h0
  rw [ea]
  refine ⟨by omega, ?_⟩
  rw [addrT_form, b3, b2, b1, b0, e3, e2, e1, e0]
theorem parseAddr_back (a : Nat) (h : a < 4294967296) : stepAddr 4 (addrT a) 0 = some a := by
  have h3 := byteN_lt a 0
  have h2 := byteN_lt a 1
  have h1 := byteN_lt a 2
  have h0 := byteN_lt a 3
  rw [addrT_form, stepAddr_more_mk (by omega), stepAddr_more_mk (by omega), stepAddr_more_mk (by omega), stepAddr_last_mk (by omega)]
  have := of_bytes a h
  congr 1; omega
theorem addr_inj {a b : Nat} (ha : a < 4294967296) (hb : b < 4294967296) (h : addrT a = addrT b) : a = b := by
  have h1 := parseAddr_back a ha
  rw [h, parseAddr_back b hb] at h1
  exact (Option.some.inj h1).symm

/-- What 'Parse' reads, ahead of its last test. -/
def parseT (s : List UInt8) : Option (Nat × Nat) :=
  match stepAddr 4 (Lib.cut s [47]).1 0, numP 32 (Lib.cut s [47]).2.1 with
  | some a, some n => if cutN a n = a then some (a, n) else none
  | _, _ => none
theorem addr_no_slash (a : Nat) : (47 : UInt8) ∉ addrT a := by
  have b (j : Nat) : byteN a j < 1000 := by have := byteN_lt a j; omega
  rw [addrT_form]
  simp only [List.mem_append, List.mem_cons, not_or]
  exact ⟨no_slash _ (b 0), by decide, no_slash _ (b 1), by decide, no_slash _ (b 2), by decide, no_slash _ (b 3)⟩
theorem parse_sound {s : List UInt8} {a n : Nat} (h : parseT s = some (a, n)) : a < 4294967296 ∧ n ≤ 32 ∧ cutN a n = a ∧ s = textT a n := by
  unfold parseT at h
  split at h
  · rename_i a' n' ha hn
    split at h
    · rename_i hc
      have e := Option.some.inj h
      simp only [Prod.mk.injEq] at e
      obtain ⟨rfl, rfl⟩ := e
      obtain ⟨hl, ea⟩ := parseAddr_sound ha
      obtain ⟨en, hn32, hn1⟩ := numP_sound hn
      refine ⟨hl, hn32, hc, ?_⟩
      rcases cut_cases s 47 with ⟨x, y, es, _, ec⟩ | ⟨_, ec⟩
      · rw [ec] at ea en
        simp only at ea en
        rw [es, ea, en]; rfl
      · rw [ec] at en
        exact absurd en.symm (dec_ne _ hn1)
    · cases h
  · cases h
theorem parse_back {a n : Nat} (h : a < 4294967296) (hn : n ≤ 32) (hc : cutN a n = a) : parseT (textT a n) = some (a, n) := by
  unfold parseT textT
  rw [cut_found (addr_no_slash a)]
  simp only
  rw [parseAddr_back a h, numP_dec hn (by omega)]
  simp only
  rw [if_pos hc]

theorem textT_len (a n : Nat) (hn : n ≤ 32) : (textT a n).length ≤ 20 := by
  have h1 : (addrT a).length ≤ 16 := addrPre_len a 4
  have h2 := dec_len n (by omega)
  unfold textT
  simp only [List.length_append, List.length_cons]
  omega

end Go.Proofs.YtplolahbjebbaaaDoor.Pfx
