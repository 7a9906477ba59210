/- The reference's At: where a prefix stands. -/
import Derived.Test.YtpcahgnibdampaaTriRows
import Derived.Test.YtpcahgnibdampaaTriIdx
import Derived.Test.YtpcahgnibdampaaPfxGive
import Derived.Outline
import Derived.BigQuiet
import Derived.Deep.RegionHeld3
namespace Go.Proofs.Ytpcahgnibdampaa.Tri
open Go.RowKit Mem PR Pfx

/-- Where a prefix stands. -/
def posE (l : List Ent) (p : Pf) : Option Nat := l.findIdx? fun e => decide (e.p = p)
def idxV : Option Nat → Int
  | some i => (i : Int)
  | none => -1
theorem pos_some {l : List Ent} {p : Pf} {i : Nat} {e : Ent} (h : l[i]? = some e) (hk : e.p = p) (hn : ∀ (j : Nat) (r : Ent), j < i → l[j]? = some r → r.p ≠ p) : posE l p = some i := by
  unfold posE
  rw [List.findIdx?_eq_some_iff_getElem]
  obtain ⟨hi, he⟩ := List.getElem?_eq_some_iff.1 h
  refine ⟨hi, by rw [he]; simpa using hk, fun j hj => ?_⟩
  have := hn j _ hj (List.getElem?_eq_getElem (by omega))
  simpa using this
theorem pos_none {l : List Ent} {p : Pf} (hn : ∀ (j : Nat) (r : Ent), l[j]? = some r → r.p ≠ p) : posE l p = none := by
  unfold posE
  rw [List.findIdx?_eq_none_iff]
  intro x hx
  obtain ⟨j, hj⟩ := List.getElem?_of_mem hx
  simpa using hn j x hj
theorem pos_stands {l : List Ent} {p : Pf} {i : Nat} (h : posE l p = some i) : StandsAt l p i := by
  unfold posE at h
  rw [List.findIdx?_eq_some_iff_getElem] at h
  obtain ⟨hi, h1, h2⟩ := h
  refine ⟨⟨l[i], List.getElem?_eq_getElem hi, by simpa using h1⟩, fun e he => ?_⟩
  obtain ⟨j, hj, rfl⟩ := List.mem_iff_getElem.1 he
  rw [List.length_take] at hj
  rw [List.getElem_take]
  simpa using h2 j (by omega)
theorem pos_no {l : List Ent} {p : Pf} (h : posE l p = none) : ∀ e ∈ l, e.p ≠ p := by
  unfold posE at h
  rw [List.findIdx?_eq_none_iff] at h
  exact fun e he => by simpa using h e he
/-- Two prefixes that are not the same are told apart. -/
theorem pf_apart {p q : Pf} (h : p ≠ q) : ((p.a : Int) == (q.a : Int)) = false ∨ p.a = q.a ∧ (p.n == q.n) = false := by
  by_cases ha : p.a = q.a
  · exact .inr ⟨ha, by simpa using fun e => h (pf_ext ha e)⟩
  · exact .inl (by simp; omega)

set_option maxRecDepth 100000 in
set_option maxHeartbeats 4000000 in
theorem at_any (v : Value) (l : List Ent) (p : Pf) (w : World) (hv : Rws w v l) :
    Calls Try.prog 9 #[v, pV p] w (Tells (.int .i64 (idxV (posE l p))) w) := by
  have HV := Go.Lib.hid hv
  obtain ⟨A, c, rfl, hlc, hc⟩ := hv.form
  obtain ⟨T, hT⟩ : ∃ T, T = idxV (posE l p) := ⟨_, rfl⟩
  rw [← hT]
  have HT := Go.Lib.hid hT
  obtain ⟨qa, qn⟩ := p
  unfold pV
  dsimp only
  have hb0 := below_new w (.cells #[.int .u32 (qa : Int), .int .i64 qn] 25)
  obtain ⟨c0, c1⟩ := cells_two w (.int .u32 (qa : Int)) (.int .i64 qn) 25
  have hlt0 : w.heap.size < (w.alloc (.cells #[.int .u32 (qa : Int), .int .i64 qn] 25)).heap.size := by simp
  have HB := Go.Lib.hid hb0
  clear hv hT hb0
  go_enter Try.func9, Try.ntmps9
  go_wp2
  generalize hw0 : w.alloc (.cells #[.int .u32 (qa : Int), .int .i64 qn] 25) = w0 at *
  go_loopw [5] (fun v5 wx => ∃ i : Nat, i ≤ l.length ∧ v5 = .int .i64 i ∧ Hid (∀ (j : Nat) (r : Ent), j < i → l[j]? = some r → r.p ≠ ⟨qa, qn⟩) ∧ Hid (Below w0.heap.size w0 wx)) (fun v5 _ => l.length - (intOf v5).toNat)
  case atStart => exact ⟨0, Nat.zero_le _, rfl, by unfold Hid; intro j r h; omega, Go.Lib.hid (Below.refl _ _)⟩
  case round =>
    obtain ⟨i, hi, rfl, hn, hb⟩ := hrel
    have d0 := (hb.out.cell (p := ⟨w.heap.size, 0, none⟩) hlt0).trans c0
    have d1 := (hb.out.cell (p := ⟨w.heap.size, 1, none⟩) hlt0).trans c1
    have HBB := Go.Lib.hid (HB.out.trans (hb.out.mono HB.out.size))
    by_cases hlt : i < l.length
    · obtain ⟨r, hr⟩ : ∃ r, l[i]? = some r := ⟨_, List.getElem?_eq_getElem hlt⟩
      obtain ⟨b, off, rfl, hbl, k0, k1, _⟩ := (HV.out).at_ hr
      have e0 := (HBB.out.cell (p := ⟨b, off + i * 3, none⟩) hbl).trans k0
      have e1 := (HBB.out.cell (p := ⟨b, off + i * 3 + 1, none⟩) hbl).trans k1
      have z0 : (0 : Int) ≤ (i : Int) := by omega
      have z1 : (i : Int) < (l.length : Int) := by omega
      by_cases he : r.p = ⟨qa, qn⟩
      · have HE := Go.Lib.hid (show T = (i : Int) by rw [HT.out, pos_some hr he hn.out]; rfl)
        rw [he] at e0 e1
        dsimp only at e0 e1
        clear hr k0 k1 he hbl
        go_wp2
        go_quiet (fail)
        go_wp2
        go_ret
        exact ⟨by rw [HE.out]; rfl, HBB.out.trans ((Mem.below_drewN _ _).mono HBB.out.size)⟩
      · have HN := Go.Lib.hid (show ∀ (j : Nat) (r : Ent), j < i + 1 → l[j]? = some r → r.p ≠ ⟨qa, qn⟩ from fun j r' hj hr' => by
          by_cases hji : j = i
          · subst hji
            rw [hr] at hr'
            injection hr' with hr'
            rw [← hr']; exact he
          · exact hn.out j r' (by omega) hr')
        have hap := pf_apart he
        obtain ⟨⟨ra, rn⟩, rv⟩ := r
        dsimp only at hap e0 e1
        clear hr k0 k1 he hbl
        rcases hap with y1 | ⟨rfl, y1⟩
        · go_wp2
          go_quiet (fail)
          go_wp2
          go_roundw
          case rel => exact ⟨i + 1, hlt, by go_num, HN, Go.Lib.hid (hb.out.trans ((Mem.below_drewN _ _).mono hb.out.size))⟩
          case measure => simp [intOf]; omega
        · go_wp2
          go_quiet (fail)
          go_wp2
          go_roundw
          case rel => exact ⟨i + 1, hlt, by go_num, HN, Go.Lib.hid (hb.out.trans ((Mem.below_drewN _ _).mono hb.out.size))⟩
          case measure => simp [intOf]; omega
    · have HE := Go.Lib.hid (show T = -1 by rw [HT.out, pos_none fun j r hr => hn.out j r (by have := (List.getElem?_eq_some_iff.1 hr).1; omega) hr]; rfl)
      have z1 : decide ((i : Int) < (l.length : Int)) = false := decide_eq_false (by omega)
      go_wp2
      go_ret
      exact ⟨by rw [HE.out]; rfl, HBB.out⟩
end Go.Proofs.Ytpcahgnibdampaa.Tri
