/- Prefixes as blocks of addresses; lists of prefixes that are the fewest for their addresses, and that there is one such list only. It speaks of no function of the program. -/
import Derived.Test.YtgjdpmpbldofpaaDoorPkDedup
namespace Go.Proofs.YtgjdpmpbldofpaaDoor.Wlk
open Mem Pfx PR

/-- A prefix has 2 ^ ex addresses. -/
def ex (p : Pf) : Nat := 32 - p.n.toNat
def sz (p : Pf) : Nat := 2 ^ ex p
/-- A good prefix. -/
def G (p : Pf) : Prop := good p = true ∧ p.a < 4294967296
def inP (p : Pf) (x : Nat) : Prop := p.a ≤ x ∧ x < p.a + sz p
def cov (p q : Pf) : Bool := coversB p.a p.n q.a q.n
theorem sz_pos (p : Pf) : 0 < sz p := Nat.pow_pos (by decide)
theorem inP_self (p : Pf) : inP p p.a := ⟨Nat.le_refl _, by have := sz_pos p; omega⟩

theorem in_div {a j x : Nat} (h : 2 ^ j ∣ a) : (a ≤ x ∧ x < a + 2 ^ j) ↔ x / 2 ^ j = a / 2 ^ j := by
  obtain ⟨c, rfl⟩ := h
  have hp := pow_pos j
  rw [Nat.mul_div_cancel_left _ hp]
  constructor
  · rintro ⟨h1, h2⟩
    exact Nat.div_eq_of_lt_le (by rw [Nat.mul_comm]; exact h1) (by rw [Nat.succ_mul, Nat.mul_comm]; exact h2)
  · intro e
    have h1 := Nat.div_add_mod x (2 ^ j)
    have h2 := Nat.mod_lt x hp
    rw [e] at h1
    omega
theorem div_up {x y i j : Nat} (h : i ≤ j) (e : x / 2 ^ i = y / 2 ^ i) : x / 2 ^ j = y / 2 ^ j := by
  have h1 : 2 ^ j = 2 ^ i * 2 ^ (j - i) := by rw [← Nat.pow_add]; congr 1; omega
  rw [h1, ← Nat.div_div_eq_div_mul, ← Nat.div_div_eq_div_mul, e]
theorem pow_ge {i j : Nat} (h : 2 ^ i ≤ 2 ^ j) : i ≤ j := by
  rcases Nat.lt_or_ge j i with h1 | h1
  · have := Nat.pow_lt_pow_right (show 1 < 2 by decide) h1
    omega
  · exact h1
theorem pow_mono {i j : Nat} (h : i ≤ j) : 2 ^ i ≤ 2 ^ j := Nat.pow_le_pow_right (by decide) h

theorem G.len {p : Pf} (h : G p) : 0 ≤ p.n ∧ p.n ≤ 32 := goodB_len h.1
theorem G.n {p : Pf} (h : G p) : p.n = ((32 - ex p : Nat) : Int) := by
  have := h.len
  unfold ex
  omega
theorem G.ex_le {p : Pf} (_ : G p) : ex p ≤ 32 := by unfold ex; omega
theorem G.dvd {p : Pf} (h : G p) : 2 ^ ex p ∣ p.a := by
  have h1 := h.len
  have h2 := h.1
  unfold good at h2
  have e : p.n = ((p.n.toNat : Nat) : Int) := by omega
  rw [e] at h2
  have h3 := goodB_cut h2
  rw [cut_iff_mod] at h3
  exact Nat.dvd_of_mod_eq_zero h3
theorem G.top {p : Pf} (h : G p) : p.a + sz p ≤ 4294967296 := by
  obtain ⟨c, hc⟩ := h.dvd
  have h1 := h.2
  have h2 : 4294967296 = 2 ^ ex p * 2 ^ (32 - ex p) := by rw [← Nat.pow_add, show ex p + (32 - ex p) = 32 by have := h.ex_le; omega]
  unfold sz
  rw [hc, h2] at h1
  rw [hc, h2, ← Nat.mul_succ]
  exact Nat.mul_le_mul_left _ (Nat.lt_of_mul_lt_mul_left h1)
theorem G.ok {p : Pf} (h : G p) : p.ok := ⟨h.2, by have := h.len; simp [Lit.wf, IntKind.min, IntKind.max, IntKind.signed, IntKind.bits]; omega⟩
/-- The block of 2 ^ j addresses from a on. -/
def mk (a j : Nat) : Pf := ⟨a, ((32 - j : Nat) : Int)⟩
theorem mk_a (a j : Nat) : (mk a j).a = a := rfl
theorem mk_ex {a j : Nat} (h : j ≤ 32) : ex (mk a j) = j := by unfold ex mk; dsimp only; omega
theorem mk_sz {a j : Nat} (h : j ≤ 32) : sz (mk a j) = 2 ^ j := by unfold sz; rw [mk_ex h]
theorem mk_G {a j : Nat} (hj : j ≤ 32) (hd : 2 ^ j ∣ a) (ha : a < 4294967296) : G (mk a j) := by
  refine ⟨?_, ha⟩
  unfold good mk
  dsimp only
  rw [goodB_in (by omega), decide_eq_true_iff, cut_iff_mod, show 32 - (32 - j) = j by omega]
  exact Nat.mod_eq_zero_of_dvd hd
theorem G.eq_mk {p : Pf} (h : G p) : p = mk p.a (ex p) := by
  have := h.n
  cases p
  unfold mk
  congr
theorem G.ext {p q : Pf} (hp : G p) (hq : G q) (ha : p.a = q.a) (he : ex p = ex q) : p = q := by rw [hp.eq_mk, hq.eq_mk, ha, he]

/-- A block that meets a larger one lies in it. -/
theorem nest_blk {p : Pf} (hp : G p) {a i y : Nat} (hd : 2 ^ i ∣ a) (hi : i ≤ ex p) (h1 : inP p y) (h2 : a ≤ y) (h3 : y < a + 2 ^ i) : p.a ≤ a ∧ a + 2 ^ i ≤ p.a + sz p := by
  have e1 := (in_div hd).1 ⟨h2, h3⟩
  have e2 := (in_div hp.dvd).1 h1
  have ps := pow_pos i
  have k1 : p.a ≤ a ∧ a < p.a + 2 ^ ex p := (in_div hp.dvd).2 (by rw [← e2]; exact (div_up hi e1).symm)
  have k2 : p.a ≤ a + 2 ^ i - 1 ∧ a + 2 ^ i - 1 < p.a + 2 ^ ex p := (in_div hp.dvd).2 (by rw [← e2]; exact div_up hi (by rw [e1]; exact (in_div hd).1 (by omega)))
  unfold sz
  omega
theorem nest {p q : Pf} (hp : G p) (hq : G q) {y : Nat} (hi : ex q ≤ ex p) (h1 : inP p y) (h2 : inP q y) : p.a ≤ q.a ∧ q.a + sz q ≤ p.a + sz p := nest_blk hp hq.dvd hi h1 h2.1 h2.2
theorem cov_iff {p q : Pf} (hp : G p) (hq : G q) : cov p q = true ↔ (p.a ≤ q.a ∧ q.a + sz q ≤ p.a + sz p) := by
  have h1 := hp.len
  have h2 := hq.len
  have g1 : goodB p.a p.n = true := hp.1
  have g2 : goodB q.a q.n = true := hq.1
  have e : cutN q.a p.n.toNat = p.a ↔ inP p q.a := by
    unfold inP sz
    rw [in_div hp.dvd]
    have hc := cut_form (k := p.n.toNat) (a := p.a) (goodB_cut (by rw [Int.toNat_of_nonneg h1.1]; exact g1))
    unfold cutN ex
    constructor
    · intro h
      rw [← h, Nat.mul_div_cancel _ (pow_pos _)]
    · intro h
      rw [h, Nat.mul_comm]
      exact hc.symm
  have hs := sz_pos q
  unfold cov coversB hasB
  rw [g1, g2]
  simp only [Bool.true_and, Bool.and_eq_true, decide_eq_true_iff]
  rw [e]
  constructor
  · rintro ⟨hn, hi⟩
    exact nest hp hq (by unfold ex; omega) hi (inP_self q)
  · rintro ⟨k1, k2⟩
    refine ⟨?_, k1, by omega⟩
    have : ex q ≤ ex p := pow_ge (show sz q ≤ sz p by omega)
    unfold ex at this
    omega
theorem cov_good {p q : Pf} (h : cov p q = true) : good p = true ∧ good q = true := by
  unfold cov coversB hasB at h
  simp only [Bool.and_eq_true] at h
  exact ⟨h.2.1, h.1.1⟩
/-- Of two prefixes one covers the other one, or they are apart. -/
theorem cov_apart {p q : Pf} (hp : G p) (hq : G q) (h1 : cov p q = false) (h2 : cov q p = false) : p.a + sz p ≤ q.a ∨ q.a + sz q ≤ p.a := by
  have k1 : ¬ (cov p q = true) := by rw [h1]; decide
  have k2 : ¬ (cov q p = true) := by rw [h2]; decide
  rw [cov_iff hp hq] at k1
  rw [cov_iff hq hp] at k2
  have s1 := sz_pos p
  have s2 := sz_pos q
  rcases Nat.lt_or_ge q.a p.a with h | h
  · rcases Nat.lt_or_ge p.a (q.a + sz q) with h3 | h3
    · rcases Nat.le_total (ex q) (ex p) with hi | hi
      · exact absurd (nest hp hq hi (inP_self p) ⟨Nat.le_of_lt h, h3⟩) k1
      · exact absurd (nest hq hp hi ⟨Nat.le_of_lt h, h3⟩ (inP_self p)) k2
    · exact .inr h3
  · rcases Nat.lt_or_ge q.a (p.a + sz p) with h3 | h3
    · rcases Nat.le_total (ex q) (ex p) with hi | hi
      · exact absurd (nest hp hq hi ⟨h, h3⟩ (inP_self q)) k1
      · exact absurd (nest hq hp hi (inP_self q) ⟨h, h3⟩) k2
    · exact .inl h3
theorem cov_anti {p q : Pf} (hp : G p) (hq : G q) (h1 : cov p q = true) (h2 : cov q p = true) : p = q := by
  rw [cov_iff hp hq] at h1
  rw [cov_iff hq hp] at h2
  have h3 : sz p = sz q := by omega
  refine hp.ext hq (by omega) ?_
  exact Nat.le_antisymm (pow_ge (Nat.le_of_eq h3)) (pow_ge (Nat.le_of_eq h3.symm))
theorem cov_self {p : Pf} (hp : G p) : cov p p = true := (cov_iff hp hp).2 ⟨Nat.le_refl _, Nat.le_refl _⟩
theorem cov_trans {p q r : Pf} (hp : G p) (hq : G q) (hr : G r) (h1 : cov p q = true) (h2 : cov q r = true) : cov p r = true := by
  rw [cov_iff hp hq] at h1
  rw [cov_iff hq hr] at h2
  rw [cov_iff hp hr]
  omega
theorem ahead_not_cov {p q : Pf} (hp : G p) (hq : G q) (h : PR.ahead p q = true) : cov q p = false := by
  cases hc : cov q p
  · rfl
  · rw [cov_iff hq hp] at hc
    rw [ahead_iff'] at h
    have h1 : p.n < q.n := by
      rcases h with h | h
      · omega
      · exact h.2
    have h2 : ex q < ex p := by have := hp.len; have := hq.len; unfold ex; omega
    have h3 : sz q < sz p := Nat.pow_lt_pow_right (by decide) h2
    omega
theorem ahead_apart {p q : Pf} (hp : G p) (hq : G q) (h : PR.ahead p q = true) (hc : cov p q = false) : p.a + sz p ≤ q.a := by
  rcases cov_apart hp hq hc (ahead_not_cov hp hq h) with h1 | h1
  · exact h1
  · rw [ahead_iff'] at h
    have := sz_pos q
    omega
theorem cov_ahead {p q : Pf} (hp : G p) (hq : G q) (h : cov p q = true) (hne : p ≠ q) : PR.ahead p q = true := by
  have h1 := (cov_iff hp hq).1 h
  rw [ahead_iff']
  have l1 := hp.len
  have l2 := hq.len
  rcases Nat.lt_or_eq_of_le h1.1 with h2 | h2
  · exact .inl h2
  · right
    refine ⟨h2, ?_⟩
    have h3 : ex q ≤ ex p := pow_ge (show sz q ≤ sz p by omega)
    have h4 : ex p ≠ ex q := fun e => hne (hp.ext hq h2 e)
    unfold ex at h3 h4
    omega

/-- All good, rising and apart. -/
structure Row1 (l : List Pf) : Prop where
  good : ∀ p ∈ l, G p
  apart : l.Pairwise (fun p q => p.a + sz p ≤ q.a)
/-- p and q are the halves of one prefix. -/
def Twin (p q : Pf) : Prop := ex p = ex q ∧ q.a = p.a + sz p ∧ 2 ^ (ex p + 1) ∣ p.a
/-- The fewest. -/
structure Canon (l : List Pf) : Prop extends Row1 l where
  whole : ∀ p ∈ l, ∀ q ∈ l, ¬ Twin p q
def has (l : List Pf) (x : Nat) : Prop := ∃ p ∈ l, inP p x
theorem has_nil (x : Nat) : ¬ has [] x := by rintro ⟨p, hp, _⟩; cases hp
theorem has_append (l m : List Pf) (x : Nat) : has (l ++ m) x ↔ has l x ∨ has m x := by
  unfold has
  constructor
  · rintro ⟨p, hp, h⟩
    rcases List.mem_append.1 hp with h1 | h1
    · exact .inl ⟨p, h1, h⟩
    · exact .inr ⟨p, h1, h⟩
  · rintro (⟨p, hp, h⟩ | ⟨p, hp, h⟩)
    · exact ⟨p, List.mem_append.2 (.inl hp), h⟩
    · exact ⟨p, List.mem_append.2 (.inr hp), h⟩
theorem has_one (p : Pf) (x : Nat) : has [p] x ↔ inP p x := by
  unfold has
  simp
theorem has_cons (p : Pf) (l : List Pf) (x : Nat) : has (p :: l) x ↔ inP p x ∨ has l x := by
  rw [show p :: l = [p] ++ l from rfl, has_append, has_one]

theorem Row1.rising {l : List Pf} (h : Row1 l) : Rising l := by
  refine List.Pairwise.imp ?_ h.apart
  intro p q hpq
  rw [ahead_iff']
  have := sz_pos p
  omega
theorem pair_mem {α : Type} {R : α → α → Prop} : ∀ {l : List α}, l.Pairwise R → ∀ p ∈ l, ∀ q ∈ l, p = q ∨ R p q ∨ R q p
  | [], _, p, hp, _, _ => by cases hp
  | a :: l, h, p, hp, q, hq => by
    rw [List.pairwise_cons] at h
    rcases List.mem_cons.1 hp with rfl | hp' <;> rcases List.mem_cons.1 hq with rfl | hq'
    · exact .inl rfl
    · exact .inr (.inl (h.1 _ hq'))
    · exact .inr (.inr (h.1 _ hp'))
    · exact pair_mem h.2 p hp' q hq'
theorem Row1.one {l : List Pf} (h : Row1 l) {p q : Pf} (hp : p ∈ l) (hq : q ∈ l) {x : Nat} (h1 : inP p x) (h2 : inP q x) : p = q := by
  rcases pair_mem h.apart p hp q hq with h3 | h3 | h3
  · exact h3
  · have := h1.2; have := h2.1; omega
  · have := h1.1; have := h2.2; omega
theorem Row1.nil : Row1 [] := ⟨fun _ h => (by cases h), List.Pairwise.nil⟩
theorem Canon.nil : Canon [] := ⟨Row1.nil, fun _ h => (by cases h)⟩

/-- Whatever block has all its addresses in such a list lies in one of its prefixes. -/
theorem Canon.full {l : List Pf} (h : Canon l) : ∀ (j a : Nat), 2 ^ j ∣ a → (∀ x, a ≤ x → x < a + 2 ^ j → has l x) → ∃ p ∈ l, p.a ≤ a ∧ a + 2 ^ j ≤ p.a + sz p
  | 0, a, _, hx => by
    obtain ⟨p, hp, h1, h2⟩ := hx a (Nat.le_refl _) (by simp)
    exact ⟨p, hp, h1, h2⟩
  | j + 1, a, hd, hx => by
    have hpw : 2 ^ (j + 1) = 2 ^ j * 2 := Nat.pow_succ _ _
    have hps := pow_pos j
    have hd0 : 2 ^ j ∣ a := Nat.dvd_trans ⟨2, hpw⟩ hd
    have hd1 : 2 ^ j ∣ a + 2 ^ j := Nat.dvd_add hd0 (Nat.dvd_refl _)
    obtain ⟨p, hp, p1, p2⟩ := Canon.full h j a hd0 (fun x h1 h2 => hx x h1 (by omega))
    obtain ⟨q, hq, q1, q2⟩ := Canon.full h j (a + 2 ^ j) hd1 (fun x h1 h2 => hx x (by omega) (by omega))
    have gp := h.good p hp
    have gq := h.good q hq
    by_cases hep : j + 1 ≤ ex p
    · exact ⟨p, hp, nest_blk gp hd hep (y := a) ⟨p1, by omega⟩ (Nat.le_refl _) (by omega)⟩
    by_cases heq : j + 1 ≤ ex q
    · exact ⟨q, hq, nest_blk gq hd heq (y := a + 2 ^ j) ⟨q1, by omega⟩ (by omega) (by omega)⟩
    have sp : sz p ≤ 2 ^ j := pow_mono (by omega)
    have sq : sz q ≤ 2 ^ j := pow_mono (by omega)
    have ep : ex p = j := Nat.le_antisymm (by omega) (pow_ge (show 2 ^ j ≤ sz p by omega))
    have eq : ex q = j := Nat.le_antisymm (by omega) (pow_ge (show 2 ^ j ≤ sz q by omega))
    have sp' : sz p = 2 ^ j := by unfold sz; rw [ep]
    have sq' : sz q = 2 ^ j := by unfold sz; rw [eq]
    have ap : p.a = a := by omega
    have aq : q.a = a + 2 ^ j := by omega
    exact absurd ⟨by rw [ep, eq], by omega, by rw [ep, ap]; exact hd⟩ (h.whole p hp q hq)
theorem Canon.sub {l m : List Pf} (hl : Canon l) (hm : Canon m) (h : ∀ x, has l x ↔ has m x) : ∀ p, p ∈ l → p ∈ m := by
  intro p hp
  have gp := hl.good p hp
  obtain ⟨q, hq, q1, q2⟩ := hm.full (ex p) p.a gp.dvd (fun x h1 h2 => (h x).1 ⟨p, hp, h1, h2⟩)
  have gq := hm.good q hq
  obtain ⟨r, hr, r1, r2⟩ := hl.full (ex q) q.a gq.dvd (fun x h1 h2 => (h x).2 ⟨q, hq, h1, h2⟩)
  have sp := sz_pos p
  have e : p = r := hl.one hp hr (inP_self p) ⟨by omega, by show p.a < r.a + sz r; change p.a + sz p ≤ q.a + sz q at q2; change q.a + sz q ≤ r.a + sz r at r2; omega⟩
  subst e
  change p.a + sz p ≤ q.a + sz q at q2
  change q.a + sz q ≤ p.a + sz p at r2
  have : p = q := cov_anti gp gq ((cov_iff gp gq).2 ⟨r1, r2⟩) ((cov_iff gq gp).2 ⟨q1, q2⟩)
  rw [this]
  exact hq
/-- Two such lists with the same addresses are the same list. -/
theorem canon_ext {l m : List Pf} (hl : Canon l) (hm : Canon m) (h : ∀ x, has l x ↔ has m x) : l = m :=
  rising_unique hl.rising hm.rising (fun p => ⟨hl.sub hm h p, hm.sub hl (fun x => (h x).symm) p⟩)
theorem row1_append {l m : List Pf} (hl : Row1 l) (hm : Row1 m) (h : ∀ p ∈ l, ∀ q ∈ m, p.a + sz p ≤ q.a) : Row1 (l ++ m) :=
  ⟨fun p hp => (List.mem_append.1 hp).elim (hl.good p) (hm.good p), List.pairwise_append.2 ⟨hl.apart, hm.apart, h⟩⟩
theorem canon_append {l m : List Pf} (hl : Canon l) (hm : Canon m) (h : ∀ p ∈ l, ∀ q ∈ m, p.a + sz p < q.a) : Canon (l ++ m) := by
  refine ⟨row1_append hl.toRow1 hm.toRow1 (fun p hp q hq => Nat.le_of_lt (h p hp q hq)), ?_⟩
  intro p hp q hq ht
  rcases List.mem_append.1 hp with h1 | h1 <;> rcases List.mem_append.1 hq with h2 | h2
  · exact hl.whole p h1 q h2 ht
  · have := h p h1 q h2
    have := ht.2.1
    omega
  · have h3 := h q h2 p h1
    have h4 := ht.2.1
    have := sz_pos q
    have := sz_pos p
    omega
  · exact hm.whole p h1 q h2 ht
end Go.Proofs.YtgjdpmpbldofpaaDoor.Wlk
