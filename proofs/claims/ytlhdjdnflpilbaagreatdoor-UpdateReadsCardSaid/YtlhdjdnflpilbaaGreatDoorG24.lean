/- Plain mathematics: what is told of ways, as bytes, and what bytes tell. It speaks of no function of the program. Plain mathematics: what is good of a good Update. It speaks of no function of the program. Plain mathematics: what a reader's calls give of an Update's bytes. It speaks of no function of the program. -/
import Derived.Test.YtlhdjdnflpilbaaGreatDoorG23
import Derived.Test.YtlhdjdnflpilbaaGreatDoorG21
import Derived.Test.YtlhdjdnflpilbaaGreatDoorG03
import Derived.Test.YtlhdjdnflpilbaaGreatDoorG06
import Derived.Test.YtlhdjdnflpilbaaGreatDoorG18
namespace Go.Proofs.YtlhdjdnflpilbaaGreatDoor.Upd
open Oct Att PR
def wellB (h : Int) : Bool := hasB h 1 && hasB h 2 && hasB h 3
theorem wellN_yes {h : Int} (hw : wellB h = true) : wellN h = ⟨0, 0, []⟩ := by
  unfold wellB at hw
  simp only [Bool.and_eq_true] at hw
  obtain ⟨⟨h1, h2⟩, h3⟩ := hw
  unfold wellN
  rw [if_neg (by rw [h1]; decide), if_neg (by rw [h2]; decide), if_neg (by rw [h3]; decide)]
theorem wellN_no {h : Int} (hw : wellB h = false) : ∃ k : Nat, 1 ≤ k ∧ k ≤ 3 ∧ wellN h = ⟨3, 3, [k]⟩ := by
  unfold wellN
  by_cases h1 : hasB h 1 = false
  · exact ⟨1, by omega, by omega, if_pos h1⟩
  · rw [if_neg h1]
    by_cases h2 : hasB h 2 = false
    · exact ⟨2, by omega, by omega, if_pos h2⟩
    · rw [if_neg h2]
      by_cases h3 : hasB h 3 = false
      · exact ⟨3, by omega, by omega, if_pos h3⟩
      · unfold wellB at hw
        simp only [Bool.not_eq_false] at h1 h2 h3
        rw [h1, h2, h3] at hw
        cases hw
def goodU (u : Up) : Bool := u.gone.all good && u.here.all good && (if u.here = [] then sameA u.at_ zeroA else goodA u.at_ && wellB u.at_.has)
def encU (u : Up) : List Nat := big (encs u.gone).length 2 ++ encs u.gone ++ big (encA u.at_).length 2 ++ encA u.at_ ++ encs u.here
def form1 : No := ⟨3, 1, []⟩
def decU3 (g : List Pf) (a : At) (d : List Nat) : No ⊕ Up := if d = [] then .inr ⟨g, zeroA, []⟩ else if wellB a.has = false then .inl (wellN a.has) else match dec val d with
  | none => .inl ⟨3, 10, []⟩
  | some h => .inr ⟨g, a, h⟩
def decU2 (g : List Pf) (r : No ⊕ At) (d : List Nat) : No ⊕ Up := match r with
  | .inl n => .inl n
  | .inr a => decU3 g a d
def decU1 (g : Option (List Pf)) (c : List Nat) : No ⊕ Up := match g with
  | none => .inl form1
  | some g => if c.length < 2 then .inl form1 else if c.length < 2 + val (c.take 2) then .inl form1 else decU2 g (decodeA ((c.drop 2).take (val (c.take 2)))) (c.drop (2 + val (c.take 2)))
def decU (b : List Nat) : No ⊕ Up := if b.length < 2 then .inl form1 else if b.length < 2 + val (b.take 2) then .inl form1 else decU1 (dec val ((b.drop 2).take (val (b.take 2)))) (b.drop (2 + val (b.take 2)))
def outU : No ⊕ Up → Up × No
  | .inl n => (zeroU, n)
  | .inr u => (u, ⟨0, 0, []⟩)
end Go.Proofs.YtlhdjdnflpilbaaGreatDoor.Upd
namespace Go.Proofs.YtlhdjdnflpilbaaGreatDoor.Upd
open Oct Att PR
theorem good_zeroA : goodA zeroA = true := by decide +kernel
theorem goodU_at {u : Up} (h : goodU u = true) : u.gone.all good = true ∧ u.here.all good = true ∧ goodA u.at_ = true := by
  unfold goodU at h
  simp only [Bool.and_eq_true] at h
  obtain ⟨⟨h1, h2⟩, h3⟩ := h
  refine ⟨h1, h2, ?_⟩
  split at h3
  · rw [sameA_iff.1 h3]; exact good_zeroA
  · exact (Bool.and_eq_true _ _ ▸ h3).1
end Go.Proofs.YtlhdjdnflpilbaaGreatDoor.Upd
namespace Go.Proofs.YtlhdjdnflpilbaaGreatDoor.Upd
open Oct Att PR
theorem rest_len (l : List Nat) (b : Bool) (k : Int) : (rest l b k).length ≤ l.length := by
  unfold rest
  split
  · simp
  · rw [List.length_drop]; omega
theorem got_len2 (l : List Nat) (b : Bool) (k : Int) : (got l b k).length ≤ l.length := by
  unfold got
  split
  · simp
  · rw [List.length_take]; omega
theorem fit_num {l : List Nat} {n : Nat} (h : n ≤ l.length) : (Rd.mk l false).num (n : Nat) = val (l.take n) := by
  unfold Rd.num
  rw [(fit_go h).2]
theorem rd_upd (b : List Nat) (x1 x2 x3 x4 : Rd) (n1 n2 : Nat) (G Q : List Nat) (e1 : x1 = (Rd.mk b false).go 2) (en1 : n1 = (Rd.mk b false).num 2) (e2 : x2 = x1.go n1) (eG : G = got x1.l x1.b n1) (e3 : x3 = x2.go 2) (en2 : n2 = x2.num 2) (e4 : x4 = x3.go n2) (eQ : Q = got x3.l x3.b n2) :
    (x4.b = true → decU b = .inl form1) ∧ (x4.b = false → (dec val G = none → decU b = .inl form1) ∧ ∀ g, dec val G = some g → decU b = decU2 g (decodeA Q) x4.l) := by
  by_cases h1 : b.length < 2
  · have hx1 : x1.b = true := by rw [e1]; exact (go_short (by omega)).1
    have hx4 : x4.b = true := by rw [e4]; exact go_bad (by rw [e3]; exact go_bad (by rw [e2]; exact go_bad hx1 _) _) _
    exact ⟨fun _ => if_pos h1, fun h => by rw [hx4] at h; cases h⟩
  have f1 := fit_go (l := b) (n := 2) (by omega)
  have g1 := fit_num (l := b) (n := 2) (by omega)
  replace e1 : x1 = ⟨b.drop 2, false⟩ := e1.trans f1.1
  replace en1 : n1 = val (b.take 2) := en1.trans g1
  subst e1
  have hD : decU b = if b.length < 2 + n1 then .inl form1 else decU1 (dec val ((b.drop 2).take n1)) (b.drop (2 + n1)) := by rw [en1]; exact if_neg h1
  clear en1 f1 g1
  by_cases h2 : b.length < 2 + n1
  · have hx2 : x2.b = true := by rw [e2]; exact (go_short (by rw [List.length_drop]; omega)).1
    have hx4 : x4.b = true := by rw [e4]; exact go_bad (by rw [e3]; exact go_bad hx2 _) _
    exact ⟨fun _ => by rw [hD, if_pos h2], fun h => by rw [hx4] at h; cases h⟩
  rw [if_neg h2] at hD
  have f2 := fit_go (l := b.drop 2) (n := n1) (by rw [List.length_drop]; omega)
  replace e2 : x2 = ⟨b.drop (2 + n1), false⟩ := e2.trans (f2.1.trans (by rw [List.drop_drop]))
  replace eG : G = (b.drop 2).take n1 := eG.trans f2.2
  subst e2
  rw [← eG] at hD
  clear f2 eG
  obtain ⟨C, hC⟩ : ∃ C, C = b.drop (2 + n1) := ⟨_, rfl⟩
  rw [← hC] at e3 en2 hD
  cases hg : dec val G with
  | none =>
    have hd : decU b = .inl form1 := by rw [hD, hg]; rfl
    exact ⟨fun _ => hd, fun _ => ⟨fun _ => hd, fun g h => by cases h⟩⟩
  | some g =>
  rw [hg] at hD
  by_cases h3 : C.length < 2
  · have hx3 : x3.b = true := by rw [e3]; exact (go_short (by omega)).1
    have hx4 : x4.b = true := by rw [e4]; exact go_bad hx3 _
    exact ⟨fun _ => by rw [hD]; exact if_pos h3, fun h => by rw [hx4] at h; cases h⟩
  have f3 := fit_go (l := C) (n := 2) (by omega)
  have g3 := fit_num (l := C) (n := 2) (by omega)
  replace e3 : x3 = ⟨C.drop 2, false⟩ := e3.trans f3.1
  replace en2 : n2 = val (C.take 2) := en2.trans g3
  subst e3
  have hD2 : decU b = if C.length < 2 + n2 then .inl form1 else decU2 g (decodeA ((C.drop 2).take n2)) (C.drop (2 + n2)) := by rw [hD, en2]; exact if_neg h3
  clear f3 g3 en2 hD
  by_cases h4 : C.length < 2 + n2
  · have hx4 : x4.b = true := by rw [e4]; exact (go_short (by rw [List.length_drop]; omega)).1
    exact ⟨fun _ => by rw [hD2, if_pos h4], fun h => by rw [hx4] at h; cases h⟩
  rw [if_neg h4] at hD2
  have f4 := fit_go (l := C.drop 2) (n := n2) (by rw [List.length_drop]; omega)
  replace e4 : x4 = ⟨C.drop (2 + n2), false⟩ := e4.trans (f4.1.trans (by rw [List.drop_drop]))
  replace eQ : Q = (C.drop 2).take n2 := eQ.trans f4.2
  subst e4
  rw [← eQ] at hD2
  refine ⟨fun h => (by cases h), fun _ => ⟨fun h => (by cases h), fun g' h => ?_⟩⟩
  injection h with h
  rw [← h]
  exact hD2
end Go.Proofs.YtlhdjdnflpilbaaGreatDoor.Upd
