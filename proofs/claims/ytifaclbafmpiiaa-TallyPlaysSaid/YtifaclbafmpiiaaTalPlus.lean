/- What Add does to a tally: counts that may be added, counts that may not, and no tally. -/
import Derived.Test.YtifaclbafmpiiaaTalInc
namespace Go.Proofs.Ytifaclbafmpiiaa.Tal
open Go.RowKit Mem Go.Maps

theorem ofG_le {g : Cnt → Nat} {m : Nat} : ∀ {l : List Cnt} (_ : ∀ r ∈ l, g r ≤ m) (k : Nat), ofG g l k ≤ m
  | [], _, _ => Nat.zero_le _
  | x :: l, h, k => by
    unfold ofG
    split
    · exact h x (List.mem_cons_self ..)
    · exact ofG_le (fun r hr => h r (List.mem_cons_of_mem _ hr)) k
theorem addS_new {l : List Cnt} {key u d : Nat} (h : idx l key = none) : addS l key u d = insS l ⟨key, u, d⟩ := by unfold addS; rw [h]
theorem addS_old {l : List Cnt} {key u d i : Nat} {r : Cnt} (h : idx l key = some i) (hr : l[i]? = some r) : addS l key u d = l.set i ⟨key, r.up + u, r.down + d⟩ := by unfold addS; rw [h]; simp only [hr]
theorem put_add {l : List Cnt} {key u d : Nat} (hs : Sorted l) : (dat l).put (.int .u32 key) (cntD (ofG Cnt.up l key + u : Nat) (ofG Cnt.down l key + d : Nat)) = dat (addS l key u d) := by
  rw [put_dat]
  cases hi : idx l key with
  | none => rw [of_none _ hi, of_none _ hi, cut_none hi, addS_new hi, Nat.zero_add, Nat.zero_add]
  | some i =>
    obtain ⟨r, hr, hrk⟩ := idx_at hi
    rw [of_idx _ hi hr, of_idx _ hi hr, ins_cut _ hs hi rfl, addS_old hi hr]
theorem good_add {l : List Cnt} {key u d : Nat} (h : Good l) (hk : key < 4294967296) (hu : ofG Cnt.up l key + u ≤ 549755813888) (hd : ofG Cnt.down l key + d ≤ 549755813888) (hl : idx l key = none → l.length < 10000) : Good (addS l key u d) := by
  cases hi : idx l key with
  | none =>
    rw [of_none _ hi] at hu hd
    rw [addS_new hi]
    exact good_ins h hi hk (by simpa using hu) (by simpa using hd) (hl hi)
  | some i =>
    obtain ⟨r, hr, hrk⟩ := idx_at hi
    rw [of_idx _ hi hr] at hu hd
    rw [addS_old hi hr]
    exact good_set h hr hrk.symm hu hd
/-- The tally's own add, of counts for which there is room. -/
theorem inc_any (v : Value) (l : List Cnt) (F : Nat → Prop) (key u d : Nat) (w : World) (hk : key < 4294967296) (hT : T w v l F) (hu : ofG Cnt.up l key + u ≤ 549755813888) (hd : ofG Cnt.down l key + d ≤ 549755813888) (hl : idx l key = none → l.length < 10000) :
    Calls Try.prog 24 #[v, .int .u32 key, .agg #[.int .i64 u, .int .i64 d]] w (AddF T v F (addS l key u d) w) := by
  obtain ⟨hgood, b, m, rfl, hb, h⟩ := hT
  have hlt : b < w.heap.size := (Array.getElem?_eq_some_iff.1 hb).1
  have hg2 := good_add hgood hk hu hd hl
  have hput := put_add (key := key) (u := u) (d := d) hgood.1
  have hlen := hgood.2.1
  rcases h with ⟨rfl, rfl, rfl⟩ | ⟨bm, rfl, hne, hown, rfl⟩
  · simp only [ofG, Nat.zero_add] at hu hd hput
    refine (inc_nil b u d key w hk hb hu hd).mono fun e w' ⟨he, bm, h1, h2, h3, h4⟩ => ?_
    rw [hput] at h2
    have h5 := owns_size h2
    rw [size_dat] at h5
    exact ⟨_, he, ⟨hg2, b, some bm, rfl, h3, .inr ⟨bm, rfl, by omega, h5, rfl⟩⟩, h4⟩
  · have hfin : ∀ (e : Ending) (w' : World), (e = .returned (.int .i64 0) ∧ ∃ w1, Below w.heap.size w w1 ∧ w1.grownBy w' (some bm) ∧ w'.ownsMap Try.prog 23 cntR bm (l.length + 1) (dat (addS l key u d))) → AddF T (.pointer (some ⟨b, 0, none⟩)) (fun k => k = b ∨ k = bm) (addS l key u d) w e w' := by
      rintro e w' ⟨he, w1, h1, h2, h3⟩
      have h5 := owns_size h3
      rw [size_dat] at h5
      exact ⟨_, he, ⟨hg2, b, some bm, rfl, held_map hlt hb h1 h2 hne, .inr ⟨bm, rfl, hne, h5, rfl⟩⟩, moved_map h1 h2 (.inr rfl)⟩
    cases hi : idx l key with
    | none =>
      rw [of_none _ hi, of_none _ hi] at hput
      rw [of_none _ hi] at hu hd
      simp only [Nat.zero_add] at hput hu hd
      exact (inc_new bm b l.length u d l key w hk hb hown (by unfold maxLen; omega) hi (hl hi) hu hd).mono fun e w' ⟨he, w1, h1, h2, h3⟩ => hfin e w' ⟨he, w1, h1, h2, by rw [← hput]; exact h3⟩
    | some i =>
      exact (inc_old bm b l.length _ _ u d l key w hk hb hown (by unfold maxLen; omega) (by rw [hi]; rfl) rfl rfl hu hd).mono fun e w' ⟨he, w1, h1, h2, h3⟩ => hfin e w' ⟨he, w1, h1, h2, by rw [← hput]; exact h3⟩

set_option maxRecDepth 100000 in
theorem plus_any (v : Value) (l : List Cnt) (F : Nat → Prop) (key u d m : Nat) (w : World) (hk : key < 4294967296) (hT : T w v l F) (hu : u ≤ 1073741824) (hd : d ≤ 1073741824) (hlen : l.length ≤ 2000) (hm : Under m l) (hm2 : m + 1073741824 ≤ 549755813888) :
    Calls Try.prog 12 #[v, .int .u32 key, .int .i64 u, .int .i64 d] w (AddF T v F (addS l key u d) w) := by
  have o1 := ofG_le (g := Cnt.up) (fun r hr => (hm r hr).1) key
  have o2 := ofG_le (g := Cnt.down) (fun r hr => (hm r hr).2) key
  have C := Go.Lib.hid (inc_any v l F key u d w hk hT (by omega) (by omega) (fun _ => by omega))
  have S1 := Go.Lib.hid (fun W => (step_any (u : Int) W).mono fun e w' (h : e = .returned (.bool (decide (0 ≤ (u : Int)) && decide ((u : Int) ≤ 1073741824))) ∧ W = w') => show e = .returned (.bool true) ∧ W = w' from ⟨by rw [h.1]; simp; omega, h.2⟩)
  have S2 := Go.Lib.hid (fun W => (step_any (d : Int) W).mono fun e w' (h : e = .returned (.bool (decide (0 ≤ (d : Int)) && decide ((d : Int) ≤ 1073741824))) ∧ W = w') => show e = .returned (.bool true) ∧ W = w' from ⟨by rw [h.1]; simp; omega, h.2⟩)
  obtain ⟨_, b, m, rfl, _, _⟩ := hT
  clear o1 o2 hm hm2 hu hd hlen
  generalize addS l key u d = L at C ⊢
  go_enter Try.func12, Try.ntmps12
  go_wp2_with (first | (go_at_call 23; with_reducible refine (S1.out _).mono ?_; rintro e w1 ⟨rfl, rfl⟩) | (go_at_call 23; with_reducible refine (S2.out _).mono ?_; rintro e w1 ⟨rfl, rfl⟩) | (go_at_call 24; refine (C.out).mono ?_; rintro e w1 ⟨F', rfl, h1, h2⟩; have H := Go.Lib.hid (And.intro h1 h2); clear h1 h2))
  go_ret
  exact ⟨F', rfl, H.out.1, H.out.2⟩
set_option maxRecDepth 100000 in
theorem plus_bad (b : Nat) (key : Nat) (u d : Int) (w : World) (hbad : (decide (u < 0) || decide (d < 0) || decide (1073741824 < u) || decide (1073741824 < d)) = true) :
    Calls Try.prog 12 #[.pointer (some ⟨b, 0, none⟩), .int .u32 key, .int .i64 u, .int .i64 d] w (Tells (.int .i64 1) w) := by
  have HB := Go.Lib.hid (Below.refl w.heap.size w)
  by_cases h1 : 0 ≤ u ∧ u ≤ 1073741824
  · have h2 : ¬ (0 ≤ d ∧ d ≤ 1073741824) := by
      intro h
      simp only [Bool.or_eq_true, decide_eq_true_eq] at hbad
      omega
    have S1 := Go.Lib.hid (fun W => (step_any u W).mono fun e w' (h : e = .returned (.bool (decide (0 ≤ u) && decide (u ≤ 1073741824))) ∧ W = w') => show e = .returned (.bool true) ∧ W = w' from ⟨by rw [h.1]; simp; omega, h.2⟩)
    have S2 := Go.Lib.hid (fun W => (step_any d W).mono fun e w' (h : e = .returned (.bool (decide (0 ≤ d) && decide (d ≤ 1073741824))) ∧ W = w') => show e = .returned (.bool false) ∧ W = w' from ⟨by rw [h.1]; simp; omega, h.2⟩)
    clear h1 h2 hbad
    go_enter Try.func12, Try.ntmps12
    go_wp2_with (first | (go_at_call 23; with_reducible refine (S1.out _).mono ?_; rintro e w1 ⟨rfl, rfl⟩) | (go_at_call 23; with_reducible refine (S2.out _).mono ?_; rintro e w1 ⟨rfl, rfl⟩))
    go_ret
    exact ⟨rfl, HB.out⟩
  · have S1 := Go.Lib.hid (fun W => (step_any u W).mono fun e w' (h : e = .returned (.bool (decide (0 ≤ u) && decide (u ≤ 1073741824))) ∧ W = w') => show e = .returned (.bool false) ∧ W = w' from ⟨by rw [h.1]; simp; omega, h.2⟩)
    clear h1 hbad
    go_enter Try.func12, Try.ntmps12
    go_wp2_with (go_at_call 23; with_reducible refine (S1.out _).mono ?_; rintro e w1 ⟨rfl, rfl⟩)
    go_ret
    exact ⟨rfl, HB.out⟩
end Go.Proofs.Ytifaclbafmpiiaa.Tal
