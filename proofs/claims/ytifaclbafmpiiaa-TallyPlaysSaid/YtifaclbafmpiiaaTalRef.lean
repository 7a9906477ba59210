/- The reference's rows of counts: where a key stands. -/
import Derived.Test.YtifaclbafmpiiaaActMem
import Derived.Outline
import Derived.BigQuiet
import Derived.Deep.RegionHeld3
namespace Go.Proofs.Ytifaclbafmpiiaa.Tal
open Go.RowKit Mem

/-- Where a key stands. -/
def idx (l : List Cnt) (k : Nat) : Option Nat := l.findIdx? fun r => r.key == k
def idxV (o : Option Nat) : Int := match o with | some i => (i : Int) | none => -1
theorem idx_some {l : List Cnt} {k i : Nat} {r : Cnt} (h : l[i]? = some r) (hk : r.key = k) (hn : ∀ (j : Nat) (r' : Cnt), j < i → l[j]? = some r' → r'.key ≠ k) : idx l k = some i := by
  unfold idx
  rw [List.findIdx?_eq_some_iff_getElem]
  obtain ⟨hi, he⟩ := List.getElem?_eq_some_iff.1 h
  refine ⟨hi, by rw [he]; simpa using hk, fun j hj => ?_⟩
  have := hn j _ hj (List.getElem?_eq_getElem (by omega))
  simpa using this
theorem idx_none {l : List Cnt} {k : Nat} (hn : ∀ (j : Nat) (r' : Cnt), l[j]? = some r' → r'.key ≠ k) : idx l k = none := by
  unfold idx
  rw [List.findIdx?_eq_none_iff]
  intro x hx
  obtain ⟨j, hj⟩ := List.getElem?_of_mem hx
  simpa using hn j x hj

set_option maxRecDepth 100000 in
set_option maxHeartbeats 4000000 in
theorem at_any (v : Value) (l : List Cnt) (k : Nat) (w : World) (hv : Cnts w v l) :
    Calls Try.prog 9 #[v, .int .u32 k] w fun e w' => e = .returned (.int .i64 (idxV (idx l k))) ∧ w = w' := by
  have HV := Go.Lib.hid hv
  obtain ⟨A, c, rfl, hlc, hc⟩ := hv.form
  obtain ⟨T, hT⟩ : ∃ T, T = idxV (idx l k) := ⟨_, rfl⟩
  rw [← hT]
  have HT := Go.Lib.hid hT
  clear hv hT
  go_enter Try.func9, Try.ntmps9
  go_wp2
  go_loop [5] (fun v5 => ∃ (i : Nat), i ≤ l.length ∧ v5 = .int .i64 i ∧ Hid (∀ (j : Nat) (r : Cnt), j < i → l[j]? = some r → r.key ≠ k)) (fun v5 => l.length - (intOf v5).toNat)
  case atStart => exact ⟨0, Nat.zero_le _, rfl, by unfold Hid; intro j r h; omega⟩
  case round =>
    obtain ⟨i, hi, rfl, hn⟩ := hrel
    by_cases hlt : i < l.length
    · obtain ⟨r, hr⟩ : ∃ r, l[i]? = some r := ⟨_, List.getElem?_eq_getElem hlt⟩
      obtain ⟨b, off, rfl, _, k1, _, _⟩ := (HV.out).at_ hr
      have j1 := k1
      have z0 : (0 : Int) ≤ (i : Int) := by omega
      have z1 : (i : Int) < (l.length : Int) := by omega
      obtain ⟨x, hx⟩ : ∃ x, x = r.key := ⟨_, rfl⟩
      rw [← hx] at j1
      by_cases he : x = k
      · have HE := Go.Lib.hid (show T = (i : Int) by rw [HT.out, idx_some hr (hx.symm.trans he) hn.out]; rfl)
        subst he
        clear hr k1 hx
        go_wp2
        go_ret
        exact ⟨by rw [HE.out]; rfl, rfl⟩
      · have HN := Go.Lib.hid (show ∀ (j : Nat) (r : Cnt), j < i + 1 → l[j]? = some r → r.key ≠ k from fun j r' hj hr' => by
          by_cases hji : j = i
          · subst hji
            rw [hr] at hr'
            injection hr' with hr'
            rw [← hr', ← hx]; exact he
          · exact hn.out j r' (by omega) hr')
        have hd : decide ((x : Int) = (k : Int)) = false := by simp; omega
        clear hr k1 hx
        go_wp2
        go_round
        case rel => exact ⟨i + 1, by omega, by go_num, HN⟩
        case measure => simp [intOf]; omega
    · have HE := Go.Lib.hid (show T = -1 by rw [HT.out, idx_none fun j r hr => hn.out j r (by have := (List.getElem?_eq_some_iff.1 hr).1; omega) hr]; rfl)
      go_wp2
      go_ret
      exact ⟨by rw [HE.out]; rfl, rfl⟩
end Go.Proofs.Ytifaclbafmpiiaa.Tal
