/- The law TriePlays, out of what is asked of the tree. -/
import Derived.Test.YtpcahgnibdampaaP14
import Derived.Test.YtpcahgnibdampaaP17
import Derived.Test.YtpcahgnibdampaaP18
import Derived.Test.YtpcahgnibdampaaP05
import Derived.Test.YtpcahgnibdampaaP16
import Derived.Deep.DrawnRows
import Derived.Deep.RegionHeld3
namespace Go.Proofs.Ytpcahgnibdampaa.Tri
open Go.RowKit Mem PR Pfx Oct
section
variable {T : Tree} {base : Nat} {v lv : Value} {l : List Ent} {w : World}
theorem oks_above {p : Pf} (h : Eoks l) : Oks (aboveE l p) := fun q hq => by
  obtain ⟨e, he, rfl⟩ := List.mem_map.1 hq
  exact (h e (List.mem_filter.1 he).1).1
theorem oks_below {p : Pf} (h : Eoks l) : Oks (belowE l p) := fun q hq => by
  obtain ⟨e, he, rfl⟩ := List.mem_map.1 hq
  exact (h e (List.mem_filter.1 he).1).1
theorem oks_keys (h : Eoks l) : Oks (keys l) := fun q hq => by
  obtain ⟨e, he, rfl⟩ := List.mem_map.1 hq
  exact (h e he).1
theorem pair_eoks (h : PairT T base v lv l w) : Eoks l := by
  obtain ⟨t, F, -, -, h3, -⟩ := h
  exact h3.2
structure AskT (v lv : Value) (l : List Ent) (p : Pf) (a : Nat) (w : World) : Prop where
  at_ : ∀ W, Below w.heap.size w W → Calls Try.prog 9 #[lv, pV p] W (Tells (.int .i64 (idxV (posE l p))) W)
  far : ∀ W, Below w.heap.size w W → Calls Try.prog 10 #[lv, .int .u32 a] W (LongF l a W)
  get : ∀ W, Below w.heap.size w W → Calls Try.prog 11 #[v, pV p] W (Tells (.tuple #[.int .i64 (valE l p), .bool (hasE l p)]) W)
  long : ∀ W, Below w.heap.size w W → Calls Try.prog 12 #[v, .int .u32 a] W (Tells (longV (longE a none l)) W)
  rbelow : ∀ W, Below w.heap.size w W → Calls Try.prog 13 #[lv, pV p] W (GivesP (belowE l p) W)
  rabove : ∀ W, Below w.heap.size w W → Calls Try.prog 16 #[lv, pV p] W (GivesP (aboveE l p) W)
  above : ∀ W, Below w.heap.size w W → Calls Try.prog 15 #[v, pV p] W (GivesP (aboveE l p) W)
  below : ∀ W, Below w.heap.size w W → Calls Try.prog 17 #[v, pV p] W (GivesP (belowE l p) W)
  count : ∀ W, Below w.heap.size w W → Calls Try.prog 18 #[v, pV p] W (Tells (.int .i64 ((belowE l p).length + (if hasE l p then 1 else 0) : Nat)) W)
  len : ∀ W, Below w.heap.size w W → Calls Try.prog 19 #[v] W (Tells (.int .i64 l.length) W)
  all : ∀ W, Below w.heap.size w W → Calls Try.prog 20 #[v] W (GivesP (keys l) W)
theorem pair_ask (FT : FaceT T) {p : Pf} {a : Nat} (h : PairT T base v lv l w) (hlen : l.length ≤ 900) (hp : p.ok) (ha : a < 4294967296) : AskT v lv l p a w := by
  obtain ⟨t, F, h1, rfl, h3, -⟩ := h
  have K := fun (W : World) (hW : Below w.heap.size w W) => FT.keep h1 (fun k hk => hW.block k (FT.low h1 k hk).2) hW.size
  exact ⟨fun W hW => at_any _ _ p W (h3.keep hW), fun W hW => rlong_any _ _ a W (h3.keep hW) ha, fun W hW => FT.get p (K W hW) hp, fun W hW => FT.long a (K W hW) ha,
    fun W hW => rbelow_any _ _ p W (h3.keep hW) hp.1 (by omega), fun W hW => rabove_any _ _ p W (h3.keep hW) hp.1 (by omega), fun W hW => FT.above p (K W hW) hp (by omega),
    fun W hW => FT.below p (K W hW) hp (by omega), fun W hW => FT.count p (K W hW) hp (by omega), fun W hW => FT.len (K W hW) (by omega), fun W hW => FT.all (K W hW) (by omega)⟩
theorem pair_cells {A : Option Addr} {n c : Nat} (h : PairT T base v (.slice A n c) l w) (h0 : 0 < l.length) :
    ∃ b off, A = some ⟨b, off, none⟩ ∧ ∀ W, Below w.heap.size w W → ∀ (i : Nat) (e : Ent), l[i]? = some e → W.cell? ⟨b, off + i * 3, none⟩ = some (.int .u32 e.p.a) ∧ W.cell? ⟨b, off + i * 3 + 1, none⟩ = some (.int .i64 e.p.n) ∧ W.cell? ⟨b, off + i * 3 + 2, none⟩ = some (.int .i64 e.v) := by
  obtain ⟨t, F, -, -, h3, -⟩ := h
  obtain ⟨b, off, rfl, -⟩ := h3.at_ (List.getElem?_eq_getElem h0)
  refine ⟨b, off, rfl, fun W hW i e he => ?_⟩
  obtain ⟨b2, off2, e2, hb, k0, k1, k2⟩ := h3.at_ he
  injection e2 with e2
  injection e2 with e2 e3 _
  subst e2 e3
  exact ⟨(hW.cell (p := ⟨b, _, none⟩) hb).trans k0, (hW.cell (p := ⟨b, _, none⟩) hb).trans k1, (hW.cell (p := ⟨b, _, none⟩) hb).trans k2⟩
theorem pos_cases (l : List Ent) (p : Pf) : (posE l p = none ∧ valE l p = 0 ∧ hasE l p = false) ∨ ∃ (k : Nat) (e : Ent), posE l p = some k ∧ l[k]? = some e ∧ valE l p = e.v ∧ hasE l p = true := by
  cases h : posE l p with
  | none => exact .inl ⟨rfl, by unfold valE; rw [no_get h]; rfl, by unfold hasE; rw [no_get h]; rfl⟩
  | some k =>
    obtain ⟨⟨y, hy, _⟩, _⟩ := pos_stands h
    exact .inr ⟨k, y, rfl, hy, by unfold valE; rw [idx_get h hy]; rfl, by unfold hasE; rw [idx_get h hy]; rfl⟩
theorem far_none {lv : Value} {a : Nat} {W : World} (hl : longE a none l = none) (h : Calls Try.prog 10 #[lv, .int .u32 a] W (LongF l a W)) : Calls Try.prog 10 #[lv, .int .u32 a] W (Tells (.int .i64 (-1)) W) := by
  refine h.mono ?_
  rintro e w' ⟨o, rfl, hb, h2⟩
  rcases hb with ⟨rfl, _⟩ | ⟨k, x, rfl, -, -, hx⟩
  · exact ⟨rfl, h2⟩
  · rw [hl] at hx; cases hx
def FarAt (l : List Ent) (y : Ent) (W : World) (e : Ending) (W' : World) : Prop := ∃ k : Nat, e = .returned (.int .i64 k) ∧ k < l.length ∧ l[k]? = some y ∧ Below W.heap.size W W'
theorem far_some {lv : Value} {a : Nat} {W : World} {y : Ent} (hl : longE a none l = some y) (h : Calls Try.prog 10 #[lv, .int .u32 a] W (LongF l a W)) : Calls Try.prog 10 #[lv, .int .u32 a] W (FarAt l y W) := by
  refine h.mono ?_
  rintro e w' ⟨o, rfl, hb, h2⟩
  rcases hb with ⟨_, h9⟩ | ⟨k, x, rfl, h3, h4, hx⟩
  · rw [hl] at h9; cases h9
  · rw [hl] at hx
    injection hx with hx
    exact ⟨k, rfl, h3, by rw [hx]; exact h4, h2⟩
theorem keys_len (l : List Ent) : (keys l).length = l.length := by simp [keys]
theorem keys_at {i : Nat} {e : Ent} (h : l[i]? = some e) : (keys l)[i]? = some e.p := by simp [keys, h]
theorem belowE_le (l : List Ent) (p : Pf) : (belowE l p).length ≤ l.length := by
  unfold belowE
  rw [List.length_map]
  exact List.length_filter_le _ _
def AllF (l : List Pf) (n : Nat) (W : World) (e : Ending) (W' : World) : Prop := ∃ A c, e = .returned (.slice A n c) ∧ Pfxs W' (.slice A n c) l ∧ Below W.heap.size W W'
theorem all_f {f : FuncId} {args : Array Value} {m : List Pf} {n : Nat} {W : World} (h : Calls Try.prog f args W (GivesP m W)) (hn : m.length = n) (hk : Oks m) : Calls Try.prog f args W (AllF m n W) := by
  refine h.mono ?_
  rintro e w' ⟨A, c, rfl, ho, hb⟩
  subst hn
  exact ⟨A, c, rfl, Pfxs.of_own ho hk, hb⟩
end
set_option maxRecDepth 100000 in
set_option maxHeartbeats 64000000 in
theorem plays_of {T : Tree} (FT : FaceT T) (HLV : ∀ W, Calls Try.prog 21 #[] W (Tells (.bool true) W)) (v : Value) (l : List Ac) (p : Pf) (a : Nat) (w : World) (hv : Acts w v l) (hp : p.ok) (ha : a < 4294967296) :
    Calls Try.prog 3 #[v, pV p, .int .u32 a] w (Tells (.bool true) w) := by
  have HV := Go.Lib.hid hv
  have LV := Go.Lib.hid HLV
  have CN := Go.Lib.hid FT.new
  obtain ⟨A, c, rfl, hlc, hc⟩ := hv.form
  have HAK := Go.Lib.hid (fun (W W2 : World) (base : Nat) (tv lv : Value) (rows : List Ent) (h : PairT T base tv lv rows W) (hl : rows.length ≤ 900) => pair_ask FT (a := a) h hl hp ha)
  obtain ⟨qa, qn⟩ := p
  unfold pV
  dsimp only
  have hb0 := below_new w (.cells #[.int .u32 (qa : Int), .int .i64 qn] 25)
  obtain ⟨c0, c1⟩ := cells_two w (.int .u32 (qa : Int)) (.int .i64 qn) 25
  have hlt0 : w.heap.size < (w.alloc (.cells #[.int .u32 (qa : Int), .int .i64 qn] 25)).heap.size := by simp
  obtain ⟨W0, hW0⟩ : ∃ W, W = w.alloc (.cells #[.int .u32 (qa : Int), .int .i64 qn] 25) := ⟨_, rfl⟩
  rw [← hW0] at hb0 c0 c1 hlt0
  have HW0 := Go.Lib.hid hW0
  have HB := Go.Lib.hid hb0
  have HK := Go.Lib.hid (fun (W : World) (h : Below W0.heap.size W0 W) => (⟨(h.cell (p := ⟨w.heap.size, 0, none⟩) hlt0).trans c0, (h.cell (p := ⟨w.heap.size, 1, none⟩) hlt0).trans c1⟩ : W.cell? ⟨w.heap.size, 0, none⟩ = some (.int .u32 qa) ∧ W.cell? ⟨w.heap.size, 1, none⟩ = some (.int .i64 qn)))
  clear hv HLV hW0 hb0 hlt0 c0 c1 hp
  go_enter Try.func3, Try.ntmps3
  go_upto_region 1 with fail
  rw [← HW0.out]
  clear HW0
  go_wp2_with (go_at_call 7; refine (CN.out _).mono ?_; rintro e w1 ⟨b, F, rfl, hT, hb⟩; have P0 := Go.Lib.hid (pair_new FT (tt := 40) hT); have B0 := Go.Lib.hid (hb.alloc hb.size (.cells #[] 40)); clear hT hb CN)
  generalize Value.pointer (some ⟨b, 0, none⟩) = tv at *
  go_loopw [8, 9, 10] (fun v8 v9 v10 wx => ∃ (j m : Nat) (g : Bool) (Ar : Option Addr) (cr : Nat) (rows : List Ent), j ≤ l.length ∧ j ≤ 60 ∧ v10 = .int .i64 j ∧ v9 = .bool g ∧ v8 = .slice Ar m cr ∧ m ≤ j ∧ Hid (m = rows.length) ∧ Hid (PairT T W0.heap.size tv (.slice Ar m cr) rows wx) ∧ Hid (Below W0.heap.size W0 wx)) (fun _ _ v10 _ => l.length - (intOf v10).toNat)
  case atStart => exact ⟨0, 0, false, _, _, [], Nat.zero_le _, Nat.zero_le _, rfl, rfl, rfl, Nat.le_refl _, Go.Lib.hid rfl, P0, B0⟩
  case round =>
    clear P0 B0
    obtain ⟨j, m, g, Ar, cr, rows, hj, hj80, rfl, rfl, rfl, hmj, hm, hp, hb⟩ := hrel
    by_cases hlt : j < l.length
    · by_cases h80 : j < 60
      · obtain ⟨ac, hac⟩ : ∃ a, l[j]? = some a := ⟨_, List.getElem?_eq_getElem hlt⟩
        obtain ⟨bl, off, rfl, hbl, k0, k1, k2, k3⟩ := (HV.out).at_ hac
        have hB := Go.Lib.hid (HB.out.trans (hb.out.mono HB.out.size))
        have c0 := (hB.out.cell (p := ⟨bl, off + j * 4, none⟩) hbl).trans k0
        have c1 := (hB.out.cell (p := ⟨bl, off + j * 4 + 1, none⟩) hbl).trans k1
        have c2 := (hB.out.cell (p := ⟨bl, off + j * 4 + 2, none⟩) hbl).trans k2
        have c3 := (hB.out.cell (p := ⟨bl, off + j * 4 + 3, none⟩) hbl).trans k3
        have hao := HV.out.2 ac (List.mem_of_getElem? hac)
        have CD := Go.Lib.hid (pair_does FT ac hp.out hao hb.out.size (by have := hm.out; omega))
        have HLE := Go.Lib.hid (doE_len rows ac)
        have z0 : (0 : Int) ≤ (j : Int) := by omega
        have z1 : (j : Int) < (l.length : Int) := by omega
        have z2 : (j : Int) < 60 := by omega
        unfold acV at CD
        clear k0 k1 k2 k3 hac hbl hao
        go_upto_region 8 with (go_at_call 8; refine (CD.out).mono ?_; rintro e w2 ⟨lv2, rfl, hp2, hb2⟩; have P2 := Go.Lib.hid hp2; have B2 := Go.Lib.hid (hb.out.trans hb2); clear hp2 hb2 c0 c1 c2 c3 CD)
        obtain ⟨A2, c2, rfl⟩ := pair_form P2.out
        obtain ⟨rows2, hr2⟩ : ∃ r, r = doE rows ac := ⟨_, rfl⟩
        rw [← hr2] at P2 HLE ⊢
        obtain ⟨m2, hm2⟩ : ∃ m, m = rows2.length := ⟨_, rfl⟩
        have h900 : rows2.length ≤ 900 := by have := hm.out; have := HLE.out; omega
        have HA := Go.Lib.hid (HAK.out _ w2 _ _ _ _ P2.out h900)
        have HEO := Go.Lib.hid (pair_eoks P2.out)
        rw [← hm2] at P2 HA ⊢
        have HM2 := Go.Lib.hid hm2
        have hmj2 : m2 ≤ j + 1 := by have := hm.out; have := HLE.out; omega
        have hj1 : j + 1 ≤ l.length ∧ j + 1 ≤ 60 := by omega
        have HKX := Go.Lib.hid (fun (W : World) (h : Below w2.heap.size w2 W) => HK.out W (B2.out.trans (h.mono B2.out.size)))
        have BX := Go.Lib.hid (Below.refl w2.heap.size w2)
        obtain ⟨d0, d1⟩ := HKX.out _ BX.out
        have CA := Go.Lib.hid HA.out.at_
        have CF := Go.Lib.hid HA.out.far
        have CG := Go.Lib.hid HA.out.get
        have CL := Go.Lib.hid HA.out.long
        have CRB := Go.Lib.hid HA.out.rbelow
        have CRA := Go.Lib.hid HA.out.rabove
        have CTA := Go.Lib.hid HA.out.above
        have CTB := Go.Lib.hid HA.out.below
        have CTC := Go.Lib.hid HA.out.count
        have CTL := Go.Lib.hid HA.out.len
        have CTX := Go.Lib.hid HA.out.all
        have CSA := Go.Lib.hid (fun (va vb : Value) (W : World) (ha : Pfxs W va (aboveE rows2 ⟨qa, qn⟩)) (hb : Pfxs W vb (aboveE rows2 ⟨qa, qn⟩)) => refSameP_any va vb _ _ W ha hb)
        have CSB := Go.Lib.hid (fun (va vb : Value) (W : World) (ha : Pfxs W va (belowE rows2 ⟨qa, qn⟩)) (hb : Pfxs W vb (belowE rows2 ⟨qa, qn⟩)) => refSameP_any va vb _ _ W ha hb)
        simp only [decide_true] at CSA CSB
        have OA := Go.Lib.hid (oks_above (p := ⟨qa, qn⟩) HEO.out)
        have OB := Go.Lib.hid (oks_below (p := ⟨qa, qn⟩) HEO.out)
        have OK := Go.Lib.hid (oks_keys HEO.out)
        unfold pV at CA CG CRB CRA CTA CTB CTC
        dsimp only at CA CG CRB CRA CTA CTB CTC
        rw [← hm2] at CTL
        clear hr2 hm2 h900 HA HLE hj hj80 z0 z1 z2 hlt h80 hmj
        obtain ⟨LB, hLB⟩ : ∃ r, r = belowE rows2 ⟨qa, qn⟩ := ⟨_, rfl⟩
        obtain ⟨LA, hLA⟩ : ∃ r, r = aboveE rows2 ⟨qa, qn⟩ := ⟨_, rfl⟩
        obtain ⟨LK, hLK⟩ : ∃ r, r = keys rows2 := ⟨_, rfl⟩
        rw [← hLB] at CRB CTB CTC CSB OB
        rw [← hLA] at CRA CTA CSA OA
        rw [← hLK] at CTX OK
        have HLK := Go.Lib.hid hLK
        have hlb : LB.length ≤ 900 := by have := belowE_le rows2 ⟨qa, qn⟩; have := HM2.out; rw [hLB]; omega
        have wn : IntKind.i64.wrap ((LB.length : Int) + 1) = (LB.length : Int) + 1 := by rw [IntKind.wrap_i64]; omega
        replace CTX := Go.Lib.hid (fun (W : World) (h : Below w2.heap.size w2 W) => all_f (n := m2) (CTX.out W h) (by rw [hLK, keys_len]; exact HM2.out.symm) OK.out)
        clear hlb OK
        clear hLB hLA hLK
        by_cases hz : m2 = 0
        · subst hz
          have hnil : rows2 = [] := List.eq_nil_of_length_eq_zero HM2.out.symm
          have hlo : longE a none rows2 = none := by rw [hnil]; rfl
          have h1 : posE rows2 ⟨qa, qn⟩ = none := by rw [hnil]; rfl
          have h2 : valE rows2 ⟨qa, qn⟩ = 0 := by rw [hnil]; rfl
          have h3 : hasE rows2 ⟨qa, qn⟩ = false := by rw [hnil]; rfl
          rw [h1] at CA
          rw [h2, h3] at CG
          rw [h3, show ((LB.length + (if false = true then 1 else 0) : Nat) : Int) = (LB.length : Int) from by simp] at CTC
          simp only [idxV] at CA
          have HZ := Go.Lib.hid hnil
          clear h1 h2 h3 hnil
          replace CF := Go.Lib.hid (fun (W : World) (h : Below w2.heap.size w2 W) => far_none hlo (CF.out W h))
          rw [hlo] at CL
          unfold longV at CL
          dsimp only at CL
          clear hlo
          go_upto_region 11 with (first
            | (go_at_call 9; (with_reducible refine (CA.out _ BX.out).mono ?_); rintro e x ⟨rfl, hbx⟩; replace BX := Go.Lib.hid (BX.out.trans (hbx.mono BX.out.size)); obtain ⟨d0, d1⟩ := HKX.out _ BX.out; clear hbx)
            | (go_at_call 10; (with_reducible refine (CF.out _ BX.out).mono ?_); rintro e x ⟨rfl, hbx⟩; replace BX := Go.Lib.hid (BX.out.trans (hbx.mono BX.out.size)); obtain ⟨d0, d1⟩ := HKX.out _ BX.out; clear hbx)
            | (go_at_call 11; (with_reducible refine (CG.out _ BX.out).mono ?_); rintro e x ⟨rfl, hbx⟩; replace BX := Go.Lib.hid (BX.out.trans (hbx.mono BX.out.size)); obtain ⟨d0, d1⟩ := HKX.out _ BX.out; clear hbx)
            | (go_at_call 12; (with_reducible refine (CL.out _ BX.out).mono ?_); rintro e x ⟨rfl, hbx⟩; replace BX := Go.Lib.hid (BX.out.trans (hbx.mono BX.out.size)); obtain ⟨d0, d1⟩ := HKX.out _ BX.out; clear hbx))
          obtain ⟨f0, f1⟩ := cells_two x (.int .u32 0) (.int .i64 0) 25
          have hbx := below_new x (.cells #[.int .u32 0, .int .i64 0] 25)
          obtain ⟨W5, hW5⟩ : ∃ W, W = x.alloc (.cells #[.int .u32 0, .int .i64 0] 25) := ⟨_, rfl⟩
          rw [← hW5] at f0 f1 hbx ⊢
          replace BX := Go.Lib.hid (BX.out.trans (hbx.mono BX.out.size))
          generalize x.heap.size = qb at *
          clear hW5 hbx
          refine wp_code (C := r11C) (by kernel_rfl) ?_
          refine r11_NN _ _ _ _ _ _ _ _ _ _ _ _ _ _ _ _ _ _ _ _ _ _ _ _ _ _ _ _ _ _ _ _ _ _ _ _ _ _ _ _ _ _ _ _ _ _ _ _ _ _ _ _ _ _ _ _ _ _ _ _ _ _ _ _ _ _ _ _ _ _ _ _ _ _ _ _ _ _ _ _ _ _ _ _ _ _ _ _ _ _ _ _ _ _ _ _ _ _ _ _ _ _ _ _ _ _ _ _ _ _ _ _ _ _ _ _ _ _ _ _ _ _ _ _ _ _ _ _ _ _ _ _ _ _ _ _ _ _ _ _ _ _ _ _ _ _ _ _ _ _ _ _ _ _ _ _ _ _ _ _ _ _ _ _ _ _ _ _ _ _ _ _ _ _ _ _ _ _ _ _ _ _ _ _ _ _ _ _ _ _ f0 f1 ?_
          intro x65 x66 x67 x68 x69 x70 x71 x72 x73 x74 x75 x76 x77 x78 x79 x80 x81 x82 x83 x84 x85 x86 x87 x88 x89 x90 x91 x92 x93 x94 x95 x96 x97 x98 x99 x100 x101 x102 x103 x104 x105 x106 x107 x108 x109 x110 x111 x112 x113 x114 x115 x116 x117 x118 x119 x120 x121 x122 x123 x124 x125 x126 x127
          clear f0 f1
          replace BX := Go.Lib.hid BX.out.drew
          obtain ⟨d0, d1⟩ := HKX.out _ BX.out
          go_upto_region 17 with (go_at_call 13; (with_reducible refine (CRB.out _ BX.out).mono ?_); rintro e x ⟨AB, cB, rfl, ho, hbx⟩; have PB := Go.Lib.hid (Pfxs.of_own ho OB.out); replace BX := Go.Lib.hid (BX.out.trans (hbx.mono BX.out.size)); obtain ⟨d0, d1⟩ := HKX.out _ BX.out; clear ho; clear hbx)
          replace BX := Go.Lib.hid BX.out.drew
          replace PB := Go.Lib.hid (PB.out.keep (Below.refl _ _).drew)
          obtain ⟨d0, d1⟩ := HKX.out _ BX.out
          refine wp_region_noPanic ?_
          refine wp_region_held_drew (S := fun w' => w'.cell? ⟨w.heap.size, 0, none⟩ = some (.int .u32 (qa : Int)) ∧ w'.cell? ⟨w.heap.size, 1, none⟩ = some (.int .i64 qn)) (by kernel_rfl) ⟨d0, d1⟩ (fun hHeld => ?_)
          refine Take.tk 0 138 hHeld ?_
          refine Take.tk 1 139 hHeld ?_
          try simp only [Act.put, Take.nm]
          refine Take.tk 3 141 hHeld ?_
          refine Take.tk 4 142 hHeld ?_
          try simp only [Act.put, Take.nm]
          try simp only [Act.put, Take.nm]
          refine wpAnyH_ready (rs := [2]) (by kernel_rfl) (by simp) ?_
          refine AllReadyH.cons (o := _) (by rfl) (fun K hK => ?_) AllReadyH.nil
          clear hHeld
          go_simp
          go_at_call 15; (with_reducible refine (CTA.out _ BX.out).mono ?_); rintro e x ⟨ATA, cTA, rfl, ho, hbx⟩; replace PB := Go.Lib.hid (PB.out.keep hbx); have PTA := Go.Lib.hid (Pfxs.of_own ho OA.out); replace BX := Go.Lib.hid (BX.out.trans (hbx.mono BX.out.size)); obtain ⟨d0, d1⟩ := HKX.out _ BX.out; clear ho; clear hbx
          (try go_wp2_with fail)
          refine hK.out _ _ ⟨d0, d1⟩ (fun hHeld => ?_)
          clear hK K
          try simp only [Act.put, Take.nm]
          refine wpAnyH_ready (rs := [5]) (by kernel_rfl) (by simp) ?_
          refine AllReadyH.cons (o := _) (by rfl) (fun K hK => ?_) AllReadyH.nil
          clear hHeld
          go_simp
          go_at_call 16; (with_reducible refine (CRA.out _ BX.out).mono ?_); rintro e x ⟨ARA, cRA, rfl, ho, hbx⟩; replace PB := Go.Lib.hid (PB.out.keep hbx); replace PTA := Go.Lib.hid (PTA.out.keep hbx); have PRA := Go.Lib.hid (Pfxs.of_own ho OA.out); replace BX := Go.Lib.hid (BX.out.trans (hbx.mono BX.out.size)); obtain ⟨d0, d1⟩ := HKX.out _ BX.out; clear ho; clear hbx
          (try go_wp2_with fail)
          refine hK.out _ _ ⟨d0, d1⟩ (fun hHeld => ?_)
          clear hK K
          try simp only [Act.put, Take.nm]
          refine wpAnyH_ready (rs := [6]) (by kernel_rfl) (by simp) ?_
          refine AllReadyH.cons (o := _) (by rfl) (fun K hK => ?_) AllReadyH.nil
          clear hHeld
          go_simp
          go_at_call 14; (with_reducible refine (CSA.out _ _ _ PTA.out PRA.out).mono ?_); rintro e x ⟨rfl, hbx⟩; replace BX := Go.Lib.hid (BX.out.trans (hbx.mono BX.out.size)); obtain ⟨d0, d1⟩ := HKX.out _ BX.out; replace PB := Go.Lib.hid (PB.out.keep hbx); clear hbx
          (try go_wp2_with fail)
          refine hK.out _ _ ⟨d0, d1⟩ (fun hHeld => ?_)
          clear hK K
          try simp only [Act.put, Take.nm]
          refine Take.tk 7 145 hHeld ?_
          refine Take.tk 8 146 hHeld ?_
          try simp only [Act.put, Take.nm]
          refine Take.tk 9 147 hHeld ?_
          refine Take.tk 10 148 hHeld ?_
          try simp only [Act.put, Take.nm]
          refine Take.tk 12 150 hHeld ?_
          try simp only [Act.put, Take.nm]
          refine wpAnyH_ready (rs := [11]) (by kernel_rfl) (by simp) ?_
          refine AllReadyH.cons (o := _) (by rfl) (fun K hK => ?_) AllReadyH.nil
          clear hHeld
          go_simp
          go_at_call 17; (with_reducible refine (CTB.out _ BX.out).mono ?_); rintro e x ⟨ATB, cTB, rfl, ho, hbx⟩; replace PB := Go.Lib.hid (PB.out.keep hbx); have PTB := Go.Lib.hid (Pfxs.of_own ho OB.out); replace BX := Go.Lib.hid (BX.out.trans (hbx.mono BX.out.size)); obtain ⟨d0, d1⟩ := HKX.out _ BX.out; clear ho; clear hbx
          (try go_wp2_with fail)
          refine hK.out _ _ ⟨d0, d1⟩ (fun hHeld => ?_)
          clear hK K
          try simp only [Act.put, Take.nm]
          refine wpAnyH_ready (rs := [13]) (by kernel_rfl) (by simp) ?_
          refine AllReadyH.cons (o := _) (by rfl) (fun K hK => ?_) AllReadyH.nil
          clear hHeld
          go_simp
          go_at_call 14; (with_reducible refine (CSB.out _ _ _ PTB.out PB.out).mono ?_); rintro e x ⟨rfl, hbx⟩; replace BX := Go.Lib.hid (BX.out.trans (hbx.mono BX.out.size)); obtain ⟨d0, d1⟩ := HKX.out _ BX.out; clear hbx
          (try go_wp2_with fail)
          refine hK.out _ _ ⟨d0, d1⟩ (fun hHeld => ?_)
          clear hK K
          try simp only [Act.put, Take.nm]
          refine Take.tk 14 152 hHeld ?_
          refine Take.tk 15 153 hHeld ?_
          try simp only [Act.put, Take.nm]
          refine Take.tk 16 154 hHeld ?_
          refine Take.tk 17 155 hHeld ?_
          try simp only [Act.put, Take.nm]
          refine Take.tk 18 156 hHeld ?_
          refine Take.tk 20 158 hHeld ?_
          try simp only [Act.put, Take.nm]
          try simp only [Act.put, Take.nm]
          refine wpAnyH_ready (rs := [19]) (by kernel_rfl) (by simp) ?_
          refine AllReadyH.cons (o := _) (by rfl) (fun K hK => ?_) AllReadyH.nil
          clear hHeld
          go_simp
          go_at_call 18; (with_reducible refine (CTC.out _ BX.out).mono ?_); rintro e x ⟨rfl, hbx⟩; replace BX := Go.Lib.hid (BX.out.trans (hbx.mono BX.out.size)); obtain ⟨d0, d1⟩ := HKX.out _ BX.out; clear hbx
          (try go_wp2_with fail)
          refine hK.out _ _ ⟨d0, d1⟩ (fun hHeld => ?_)
          clear hK K
          try simp only [Act.put, Take.nm]
          refine Take.tk 21 159 hHeld ?_
          refine Take.tk 22 160 hHeld ?_
          try simp only [Act.put, Take.nm]
          refine Take.tk 23 161 hHeld ?_
          refine Take.tk 24 162 hHeld ?_
          try simp only [Act.put, Take.nm]
          refine Take.tk 26 164 hHeld ?_
          refine Take.tk 27 165 hHeld ?_
          try simp only [Act.put, Take.nm]
          try simp only [Act.put, Take.nm]
          refine wpAnyH_ready (rs := [25]) (by kernel_rfl) (by simp) ?_
          refine AllReadyH.cons (o := _) (by rfl) (fun K hK => ?_) AllReadyH.nil
          clear hHeld
          go_simp
          go_at_call 19; (with_reducible refine (CTL.out _ BX.out).mono ?_); rintro e x ⟨rfl, hbx⟩; replace BX := Go.Lib.hid (BX.out.trans (hbx.mono BX.out.size)); obtain ⟨d0, d1⟩ := HKX.out _ BX.out; clear hbx
          (try go_wp2_with fail)
          refine hK.out _ _ ⟨d0, d1⟩ (fun hHeld => ?_)
          clear hK K
          try simp only [Act.put, Take.nm]
          refine Take.tk 28 166 hHeld ?_
          refine Take.tk 29 167 hHeld ?_
          try simp only [Act.put, Take.nm]
          try simp only [Act.put, Take.nm]
          clear hHeld
          refine wpAnyH_done (by kernel_rfl) ?_ _
          refine NoPanic.normal ?_
          clear d0 d1
          go_wp2_with (go_at_call 20; (with_reducible refine (CTX.out _ BX.out).mono ?_); rintro e xx ⟨AX, cX, rfl, hpx, hbx⟩; have PX := Go.Lib.hid hpx; replace BX := Go.Lib.hid (BX.out.trans (hbx.mono BX.out.size)); clear hpx hbx)
          go_loopw [21] (fun v21 wx => ∃ k : Nat, k ≤ 0 ∧ v21 = .int .i64 k ∧ Hid (Below xx.heap.size xx wx)) (fun v21 _ => 0 - (intOf v21).toNat)
          case atStart => exact ⟨0, Nat.zero_le _, rfl, Go.Lib.hid (Below.refl _ _)⟩
          case round =>
            obtain ⟨k, hk, rfl, hbk⟩ := hrel
            have BK := Go.Lib.hid (BX.out.trans (hbk.out.mono BX.out.size))
            by_cases hkm : k < 0
            · exact absurd hkm (Nat.not_lt_zero _)
            · have z1 : decide ((k : Int) < (0 : Int)) = false := decide_eq_false (by omega)
              go_wp2
              go_roundw
              case rel => exact ⟨j + 1, 0, true, _, _, rows2, hj1.1, hj1.2, by go_num, rfl, rfl, Nat.zero_le _, HM2, Go.Lib.hid (P2.out.keep FT BK.out), Go.Lib.hid (B2.out.trans (BK.out.mono B2.out.size))⟩
              case measure => simp [intOf]; omega
        · obtain ⟨br, or_, rfl, hcr⟩ := pair_cells P2.out (by have := HM2.out; omega)
          have HCR := Go.Lib.hid hcr
          clear hcr
          rcases pos_cases rows2 ⟨qa, qn⟩ with ⟨h1, h2, h3⟩ | ⟨kp, ep, h1, h4, h2, h3⟩
          · rw [h1] at CA
            rw [h2, h3] at CG
            rw [h3, show ((LB.length + (if false = true then 1 else 0) : Nat) : Int) = (LB.length : Int) from by simp] at CTC
            simp only [idxV] at CA
            clear h1 h2 h3
            cases hlo : longE a none rows2 with
            | none =>
              replace CF := Go.Lib.hid (fun (W : World) (h : Below w2.heap.size w2 W) => far_none hlo (CF.out W h))
              rw [hlo] at CL
              unfold longV at CL
              dsimp only at CL
              clear hlo
              go_upto_region 11 with (first
                | (go_at_call 9; (with_reducible refine (CA.out _ BX.out).mono ?_); rintro e x ⟨rfl, hbx⟩; replace BX := Go.Lib.hid (BX.out.trans (hbx.mono BX.out.size)); obtain ⟨d0, d1⟩ := HKX.out _ BX.out; clear hbx)
                | (go_at_call 10; (with_reducible refine (CF.out _ BX.out).mono ?_); rintro e x ⟨rfl, hbx⟩; replace BX := Go.Lib.hid (BX.out.trans (hbx.mono BX.out.size)); obtain ⟨d0, d1⟩ := HKX.out _ BX.out; clear hbx)
                | (go_at_call 11; (with_reducible refine (CG.out _ BX.out).mono ?_); rintro e x ⟨rfl, hbx⟩; replace BX := Go.Lib.hid (BX.out.trans (hbx.mono BX.out.size)); obtain ⟨d0, d1⟩ := HKX.out _ BX.out; clear hbx)
                | (go_at_call 12; (with_reducible refine (CL.out _ BX.out).mono ?_); rintro e x ⟨rfl, hbx⟩; replace BX := Go.Lib.hid (BX.out.trans (hbx.mono BX.out.size)); obtain ⟨d0, d1⟩ := HKX.out _ BX.out; clear hbx))
              obtain ⟨f0, f1⟩ := cells_two x (.int .u32 0) (.int .i64 0) 25
              have hbx := below_new x (.cells #[.int .u32 0, .int .i64 0] 25)
              obtain ⟨W5, hW5⟩ : ∃ W, W = x.alloc (.cells #[.int .u32 0, .int .i64 0] 25) := ⟨_, rfl⟩
              rw [← hW5] at f0 f1 hbx ⊢
              replace BX := Go.Lib.hid (BX.out.trans (hbx.mono BX.out.size))
              generalize x.heap.size = qb at *
              clear hW5 hbx
              refine wp_code (C := r11C) (by kernel_rfl) ?_
              refine r11_NN _ _ _ _ _ _ _ _ _ _ _ _ _ _ _ _ _ _ _ _ _ _ _ _ _ _ _ _ _ _ _ _ _ _ _ _ _ _ _ _ _ _ _ _ _ _ _ _ _ _ _ _ _ _ _ _ _ _ _ _ _ _ _ _ _ _ _ _ _ _ _ _ _ _ _ _ _ _ _ _ _ _ _ _ _ _ _ _ _ _ _ _ _ _ _ _ _ _ _ _ _ _ _ _ _ _ _ _ _ _ _ _ _ _ _ _ _ _ _ _ _ _ _ _ _ _ _ _ _ _ _ _ _ _ _ _ _ _ _ _ _ _ _ _ _ _ _ _ _ _ _ _ _ _ _ _ _ _ _ _ _ _ _ _ _ _ _ _ _ _ _ _ _ _ _ _ _ _ _ _ _ _ _ _ _ _ _ _ _ _ f0 f1 ?_
              intro x65 x66 x67 x68 x69 x70 x71 x72 x73 x74 x75 x76 x77 x78 x79 x80 x81 x82 x83 x84 x85 x86 x87 x88 x89 x90 x91 x92 x93 x94 x95 x96 x97 x98 x99 x100 x101 x102 x103 x104 x105 x106 x107 x108 x109 x110 x111 x112 x113 x114 x115 x116 x117 x118 x119 x120 x121 x122 x123 x124 x125 x126 x127
              clear f0 f1
              replace BX := Go.Lib.hid BX.out.drew
              obtain ⟨d0, d1⟩ := HKX.out _ BX.out
              go_upto_region 17 with (go_at_call 13; (with_reducible refine (CRB.out _ BX.out).mono ?_); rintro e x ⟨AB, cB, rfl, ho, hbx⟩; have PB := Go.Lib.hid (Pfxs.of_own ho OB.out); replace BX := Go.Lib.hid (BX.out.trans (hbx.mono BX.out.size)); obtain ⟨d0, d1⟩ := HKX.out _ BX.out; clear ho; clear hbx)
              replace BX := Go.Lib.hid BX.out.drew
              replace PB := Go.Lib.hid (PB.out.keep (Below.refl _ _).drew)
              obtain ⟨d0, d1⟩ := HKX.out _ BX.out
              refine wp_region_noPanic ?_
              refine wp_region_held_drew (S := fun w' => w'.cell? ⟨w.heap.size, 0, none⟩ = some (.int .u32 (qa : Int)) ∧ w'.cell? ⟨w.heap.size, 1, none⟩ = some (.int .i64 qn)) (by kernel_rfl) ⟨d0, d1⟩ (fun hHeld => ?_)
              refine Take.tk 0 138 hHeld ?_
              refine Take.tk 1 139 hHeld ?_
              try simp only [Act.put, Take.nm]
              refine Take.tk 3 141 hHeld ?_
              refine Take.tk 4 142 hHeld ?_
              try simp only [Act.put, Take.nm]
              try simp only [Act.put, Take.nm]
              refine wpAnyH_ready (rs := [2]) (by kernel_rfl) (by simp) ?_
              refine AllReadyH.cons (o := _) (by rfl) (fun K hK => ?_) AllReadyH.nil
              clear hHeld
              go_simp
              go_at_call 15; (with_reducible refine (CTA.out _ BX.out).mono ?_); rintro e x ⟨ATA, cTA, rfl, ho, hbx⟩; replace PB := Go.Lib.hid (PB.out.keep hbx); have PTA := Go.Lib.hid (Pfxs.of_own ho OA.out); replace BX := Go.Lib.hid (BX.out.trans (hbx.mono BX.out.size)); obtain ⟨d0, d1⟩ := HKX.out _ BX.out; clear ho; clear hbx
              (try go_wp2_with fail)
              refine hK.out _ _ ⟨d0, d1⟩ (fun hHeld => ?_)
              clear hK K
              try simp only [Act.put, Take.nm]
              refine wpAnyH_ready (rs := [5]) (by kernel_rfl) (by simp) ?_
              refine AllReadyH.cons (o := _) (by rfl) (fun K hK => ?_) AllReadyH.nil
              clear hHeld
              go_simp
              go_at_call 16; (with_reducible refine (CRA.out _ BX.out).mono ?_); rintro e x ⟨ARA, cRA, rfl, ho, hbx⟩; replace PB := Go.Lib.hid (PB.out.keep hbx); replace PTA := Go.Lib.hid (PTA.out.keep hbx); have PRA := Go.Lib.hid (Pfxs.of_own ho OA.out); replace BX := Go.Lib.hid (BX.out.trans (hbx.mono BX.out.size)); obtain ⟨d0, d1⟩ := HKX.out _ BX.out; clear ho; clear hbx
              (try go_wp2_with fail)
              refine hK.out _ _ ⟨d0, d1⟩ (fun hHeld => ?_)
              clear hK K
              try simp only [Act.put, Take.nm]
              refine wpAnyH_ready (rs := [6]) (by kernel_rfl) (by simp) ?_
              refine AllReadyH.cons (o := _) (by rfl) (fun K hK => ?_) AllReadyH.nil
              clear hHeld
              go_simp
              go_at_call 14; (with_reducible refine (CSA.out _ _ _ PTA.out PRA.out).mono ?_); rintro e x ⟨rfl, hbx⟩; replace BX := Go.Lib.hid (BX.out.trans (hbx.mono BX.out.size)); obtain ⟨d0, d1⟩ := HKX.out _ BX.out; replace PB := Go.Lib.hid (PB.out.keep hbx); clear hbx
              (try go_wp2_with fail)
              refine hK.out _ _ ⟨d0, d1⟩ (fun hHeld => ?_)
              clear hK K
              try simp only [Act.put, Take.nm]
              refine Take.tk 7 145 hHeld ?_
              refine Take.tk 8 146 hHeld ?_
              try simp only [Act.put, Take.nm]
              refine Take.tk 9 147 hHeld ?_
              refine Take.tk 10 148 hHeld ?_
              try simp only [Act.put, Take.nm]
              refine Take.tk 12 150 hHeld ?_
              try simp only [Act.put, Take.nm]
              refine wpAnyH_ready (rs := [11]) (by kernel_rfl) (by simp) ?_
              refine AllReadyH.cons (o := _) (by rfl) (fun K hK => ?_) AllReadyH.nil
              clear hHeld
              go_simp
              go_at_call 17; (with_reducible refine (CTB.out _ BX.out).mono ?_); rintro e x ⟨ATB, cTB, rfl, ho, hbx⟩; replace PB := Go.Lib.hid (PB.out.keep hbx); have PTB := Go.Lib.hid (Pfxs.of_own ho OB.out); replace BX := Go.Lib.hid (BX.out.trans (hbx.mono BX.out.size)); obtain ⟨d0, d1⟩ := HKX.out _ BX.out; clear ho; clear hbx
              (try go_wp2_with fail)
              refine hK.out _ _ ⟨d0, d1⟩ (fun hHeld => ?_)
              clear hK K
              try simp only [Act.put, Take.nm]
              refine wpAnyH_ready (rs := [13]) (by kernel_rfl) (by simp) ?_
              refine AllReadyH.cons (o := _) (by rfl) (fun K hK => ?_) AllReadyH.nil
              clear hHeld
              go_simp
              go_at_call 14; (with_reducible refine (CSB.out _ _ _ PTB.out PB.out).mono ?_); rintro e x ⟨rfl, hbx⟩; replace BX := Go.Lib.hid (BX.out.trans (hbx.mono BX.out.size)); obtain ⟨d0, d1⟩ := HKX.out _ BX.out; clear hbx
              (try go_wp2_with fail)
              refine hK.out _ _ ⟨d0, d1⟩ (fun hHeld => ?_)
              clear hK K
              try simp only [Act.put, Take.nm]
              refine Take.tk 14 152 hHeld ?_
              refine Take.tk 15 153 hHeld ?_
              try simp only [Act.put, Take.nm]
              refine Take.tk 16 154 hHeld ?_
              refine Take.tk 17 155 hHeld ?_
              try simp only [Act.put, Take.nm]
              refine Take.tk 18 156 hHeld ?_
              refine Take.tk 20 158 hHeld ?_
              try simp only [Act.put, Take.nm]
              try simp only [Act.put, Take.nm]
              refine wpAnyH_ready (rs := [19]) (by kernel_rfl) (by simp) ?_
              refine AllReadyH.cons (o := _) (by rfl) (fun K hK => ?_) AllReadyH.nil
              clear hHeld
              go_simp
              go_at_call 18; (with_reducible refine (CTC.out _ BX.out).mono ?_); rintro e x ⟨rfl, hbx⟩; replace BX := Go.Lib.hid (BX.out.trans (hbx.mono BX.out.size)); obtain ⟨d0, d1⟩ := HKX.out _ BX.out; clear hbx
              (try go_wp2_with fail)
              refine hK.out _ _ ⟨d0, d1⟩ (fun hHeld => ?_)
              clear hK K
              try simp only [Act.put, Take.nm]
              refine Take.tk 21 159 hHeld ?_
              refine Take.tk 22 160 hHeld ?_
              try simp only [Act.put, Take.nm]
              refine Take.tk 23 161 hHeld ?_
              refine Take.tk 24 162 hHeld ?_
              try simp only [Act.put, Take.nm]
              refine Take.tk 26 164 hHeld ?_
              refine Take.tk 27 165 hHeld ?_
              try simp only [Act.put, Take.nm]
              try simp only [Act.put, Take.nm]
              refine wpAnyH_ready (rs := [25]) (by kernel_rfl) (by simp) ?_
              refine AllReadyH.cons (o := _) (by rfl) (fun K hK => ?_) AllReadyH.nil
              clear hHeld
              go_simp
              go_at_call 19; (with_reducible refine (CTL.out _ BX.out).mono ?_); rintro e x ⟨rfl, hbx⟩; replace BX := Go.Lib.hid (BX.out.trans (hbx.mono BX.out.size)); obtain ⟨d0, d1⟩ := HKX.out _ BX.out; clear hbx
              (try go_wp2_with fail)
              refine hK.out _ _ ⟨d0, d1⟩ (fun hHeld => ?_)
              clear hK K
              try simp only [Act.put, Take.nm]
              refine Take.tk 28 166 hHeld ?_
              refine Take.tk 29 167 hHeld ?_
              try simp only [Act.put, Take.nm]
              try simp only [Act.put, Take.nm]
              clear hHeld
              refine wpAnyH_done (by kernel_rfl) ?_ _
              refine NoPanic.normal ?_
              clear d0 d1
              go_wp2_with (go_at_call 20; (with_reducible refine (CTX.out _ BX.out).mono ?_); rintro e xx ⟨AX, cX, rfl, hpx, hbx⟩; have PX := Go.Lib.hid hpx; replace BX := Go.Lib.hid (BX.out.trans (hbx.mono BX.out.size)); clear hpx hbx)
              go_loopw [21] (fun v21 wx => ∃ k : Nat, k ≤ m2 ∧ v21 = .int .i64 k ∧ Hid (Below xx.heap.size xx wx)) (fun v21 _ => m2 - (intOf v21).toNat)
              case atStart => exact ⟨0, Nat.zero_le _, rfl, Go.Lib.hid (Below.refl _ _)⟩
              case round =>
                obtain ⟨k, hk, rfl, hbk⟩ := hrel
                have BK := Go.Lib.hid (BX.out.trans (hbk.out.mono BX.out.size))
                by_cases hkm : k < m2
                · obtain ⟨ex, hex⟩ : ∃ r, rows2[k]? = some r := ⟨_, List.getElem?_eq_getElem (by have := HM2.out; omega)⟩
                  obtain ⟨e0, e1, -⟩ := HCR.out _ BK.out _ _ hex
                  obtain ⟨b5, o5, rfl, hb5, t0, t1⟩ := (PX.out).at_ (show LK[k]? = some ex.p by rw [HLK.out]; exact keys_at hex)
                  replace t0 := (hbk.out.cell (p := ⟨b5, o5 + k * 2, none⟩) hb5).trans t0
                  replace t1 := (hbk.out.cell (p := ⟨b5, o5 + k * 2 + 1, none⟩) hb5).trans t1
                  generalize ex.p.a = ea at *
                  generalize ex.p.n = en at *
                  have z0 : (0 : Int) ≤ (k : Int) := by omega
                  have z1 : (k : Int) < (m2 : Int) := by omega
                  clear hex hb5
                  go_wp2
                  go_quiet (fail)
                  go_wp2
                  go_roundw
                  case rel => exact ⟨k + 1, hkm, by go_num, Go.Lib.hid (hbk.out.trans ((Mem.below_drewN _ _).mono hbk.out.size))⟩
                  case measure => simp [intOf]; omega
                · have z1 : decide ((k : Int) < (m2 : Int)) = false := decide_eq_false (by omega)
                  go_wp2
                  go_roundw
                  case rel => exact ⟨j + 1, m2, true, _, _, rows2, hj1.1, hj1.2, by go_num, rfl, rfl, hmj2, HM2, Go.Lib.hid (P2.out.keep FT BK.out), Go.Lib.hid (B2.out.trans (BK.out.mono B2.out.size))⟩
                  case measure => simp [intOf]; omega
            | some ey =>
              replace CF := Go.Lib.hid (fun (W : World) (h : Below w2.heap.size w2 W) => far_some hlo (CF.out W h))
              rw [hlo] at CL
              unfold longV pV at CL
              obtain ⟨⟨ya, yn⟩, yv⟩ := ey
              dsimp only at CL
              clear hlo
              go_upto_region 11 with (first
                | (go_at_call 9; (with_reducible refine (CA.out _ BX.out).mono ?_); rintro e x ⟨rfl, hbx⟩; replace BX := Go.Lib.hid (BX.out.trans (hbx.mono BX.out.size)); obtain ⟨d0, d1⟩ := HKX.out _ BX.out; clear hbx)
                | (go_at_call 10; (with_reducible refine (CF.out _ BX.out).mono ?_); rintro e x ⟨ky, rfl, hky, hye, hbx⟩; have HYE := Go.Lib.hid hye; have HKY := Go.Lib.hid hky; replace BX := Go.Lib.hid (BX.out.trans (hbx.mono BX.out.size)); obtain ⟨d0, d1⟩ := HKX.out _ BX.out; clear hye hky; clear hbx)
                | (go_at_call 11; (with_reducible refine (CG.out _ BX.out).mono ?_); rintro e x ⟨rfl, hbx⟩; replace BX := Go.Lib.hid (BX.out.trans (hbx.mono BX.out.size)); obtain ⟨d0, d1⟩ := HKX.out _ BX.out; clear hbx)
                | (go_at_call 12; (with_reducible refine (CL.out _ BX.out).mono ?_); rintro e x ⟨rfl, hbx⟩; replace BX := Go.Lib.hid (BX.out.trans (hbx.mono BX.out.size)); obtain ⟨d0, d1⟩ := HKX.out _ BX.out; clear hbx))
              obtain ⟨f0, f1⟩ := cells_two x (.int .u32 (ya : Int)) (.int .i64 yn) 25
              have hbx := below_new x (.cells #[.int .u32 (ya : Int), .int .i64 yn] 25)
              obtain ⟨W5, hW5⟩ : ∃ W, W = x.alloc (.cells #[.int .u32 (ya : Int), .int .i64 yn] 25) := ⟨_, rfl⟩
              rw [← hW5] at f0 f1 hbx ⊢
              replace BX := Go.Lib.hid (BX.out.trans (hbx.mono BX.out.size))
              generalize x.heap.size = qb at *
              clear hW5 hbx
              obtain ⟨y0, y1, y2⟩ := HCR.out _ BX.out _ _ HYE.out
              dsimp only at y0 y1 y2
              have s1 : (ky : Int) < (m2 : Int) := by have := HM2.out; have := HKY.out; omega
              refine wp_code (C := r11C) (by kernel_rfl) ?_
              refine r11_NS _ _ _ _ _ _ _ _ _ _ _ _ _ _ _ _ _ _ _ _ _ _ _ _ _ _ _ _ _ _ _ _ _ _ _ _ _ _ _ _ _ _ _ _ _ _ _ _ _ _ _ _ _ _ _ _ _ _ _ _ _ _ _ _ _ _ _ _ _ _ _ _ _ _ _ _ _ _ _ _ _ _ _ _ _ _ _ _ _ _ _ _ _ _ _ _ _ _ _ _ _ _ _ _ _ _ _ _ _ _ _ _ _ _ _ _ _ _ _ _ _ _ _ _ _ _ _ _ _ _ _ _ _ _ _ _ _ _ _ _ _ _ _ _ _ _ _ _ _ _ _ _ _ _ _ _ _ _ _ _ _ _ _ _ _ _ _ _ _ _ _ _ _ _ _ _ _ _ _ _ _ _ _ _ _ _ _ _ _ _ _ _ _ _ _ f0 f1 s1 y0 y1 y2 ?_
              intro x65 x66 x67 x68 x69 x70 x71 x72 x73 x74 x75 x76 x77 x78 x79 x80 x81 x82 x83 x84 x85 x86 x87 x88 x89 x90 x91 x92 x93 x94 x95 x96 x97 x98 x99 x100 x101 x102 x103 x104 x105 x106 x107 x108 x109 x110 x111 x112 x113 x114 x115 x116 x117 x118 x119 x120 x121 x122 x123 x124 x125 x126 x127
              clear f0 f1 y0 y1 y2
              replace BX := Go.Lib.hid BX.out.drew
              obtain ⟨d0, d1⟩ := HKX.out _ BX.out
              go_upto_region 17 with (go_at_call 13; (with_reducible refine (CRB.out _ BX.out).mono ?_); rintro e x ⟨AB, cB, rfl, ho, hbx⟩; have PB := Go.Lib.hid (Pfxs.of_own ho OB.out); replace BX := Go.Lib.hid (BX.out.trans (hbx.mono BX.out.size)); obtain ⟨d0, d1⟩ := HKX.out _ BX.out; clear ho; clear hbx)
              replace BX := Go.Lib.hid BX.out.drew
              replace PB := Go.Lib.hid (PB.out.keep (Below.refl _ _).drew)
              obtain ⟨d0, d1⟩ := HKX.out _ BX.out
              refine wp_region_noPanic ?_
              refine wp_region_held_drew (S := fun w' => w'.cell? ⟨w.heap.size, 0, none⟩ = some (.int .u32 (qa : Int)) ∧ w'.cell? ⟨w.heap.size, 1, none⟩ = some (.int .i64 qn)) (by kernel_rfl) ⟨d0, d1⟩ (fun hHeld => ?_)
              refine Take.tk 0 138 hHeld ?_
              refine Take.tk 1 139 hHeld ?_
              try simp only [Act.put, Take.nm]
              refine Take.tk 3 141 hHeld ?_
              refine Take.tk 4 142 hHeld ?_
              try simp only [Act.put, Take.nm]
              try simp only [Act.put, Take.nm]
              refine wpAnyH_ready (rs := [2]) (by kernel_rfl) (by simp) ?_
              refine AllReadyH.cons (o := _) (by rfl) (fun K hK => ?_) AllReadyH.nil
              clear hHeld
              go_simp
              go_at_call 15; (with_reducible refine (CTA.out _ BX.out).mono ?_); rintro e x ⟨ATA, cTA, rfl, ho, hbx⟩; replace PB := Go.Lib.hid (PB.out.keep hbx); have PTA := Go.Lib.hid (Pfxs.of_own ho OA.out); replace BX := Go.Lib.hid (BX.out.trans (hbx.mono BX.out.size)); obtain ⟨d0, d1⟩ := HKX.out _ BX.out; clear ho; clear hbx
              (try go_wp2_with fail)
              refine hK.out _ _ ⟨d0, d1⟩ (fun hHeld => ?_)
              clear hK K
              try simp only [Act.put, Take.nm]
              refine wpAnyH_ready (rs := [5]) (by kernel_rfl) (by simp) ?_
              refine AllReadyH.cons (o := _) (by rfl) (fun K hK => ?_) AllReadyH.nil
              clear hHeld
              go_simp
              go_at_call 16; (with_reducible refine (CRA.out _ BX.out).mono ?_); rintro e x ⟨ARA, cRA, rfl, ho, hbx⟩; replace PB := Go.Lib.hid (PB.out.keep hbx); replace PTA := Go.Lib.hid (PTA.out.keep hbx); have PRA := Go.Lib.hid (Pfxs.of_own ho OA.out); replace BX := Go.Lib.hid (BX.out.trans (hbx.mono BX.out.size)); obtain ⟨d0, d1⟩ := HKX.out _ BX.out; clear ho; clear hbx
              (try go_wp2_with fail)
              refine hK.out _ _ ⟨d0, d1⟩ (fun hHeld => ?_)
              clear hK K
              try simp only [Act.put, Take.nm]
              refine wpAnyH_ready (rs := [6]) (by kernel_rfl) (by simp) ?_
              refine AllReadyH.cons (o := _) (by rfl) (fun K hK => ?_) AllReadyH.nil
              clear hHeld
              go_simp
              go_at_call 14; (with_reducible refine (CSA.out _ _ _ PTA.out PRA.out).mono ?_); rintro e x ⟨rfl, hbx⟩; replace BX := Go.Lib.hid (BX.out.trans (hbx.mono BX.out.size)); obtain ⟨d0, d1⟩ := HKX.out _ BX.out; replace PB := Go.Lib.hid (PB.out.keep hbx); clear hbx
              (try go_wp2_with fail)
              refine hK.out _ _ ⟨d0, d1⟩ (fun hHeld => ?_)
              clear hK K
              try simp only [Act.put, Take.nm]
              refine Take.tk 7 145 hHeld ?_
              refine Take.tk 8 146 hHeld ?_
              try simp only [Act.put, Take.nm]
              refine Take.tk 9 147 hHeld ?_
              refine Take.tk 10 148 hHeld ?_
              try simp only [Act.put, Take.nm]
              refine Take.tk 12 150 hHeld ?_
              try simp only [Act.put, Take.nm]
              refine wpAnyH_ready (rs := [11]) (by kernel_rfl) (by simp) ?_
              refine AllReadyH.cons (o := _) (by rfl) (fun K hK => ?_) AllReadyH.nil
              clear hHeld
              go_simp
              go_at_call 17; (with_reducible refine (CTB.out _ BX.out).mono ?_); rintro e x ⟨ATB, cTB, rfl, ho, hbx⟩; replace PB := Go.Lib.hid (PB.out.keep hbx); have PTB := Go.Lib.hid (Pfxs.of_own ho OB.out); replace BX := Go.Lib.hid (BX.out.trans (hbx.mono BX.out.size)); obtain ⟨d0, d1⟩ := HKX.out _ BX.out; clear ho; clear hbx
              (try go_wp2_with fail)
              refine hK.out _ _ ⟨d0, d1⟩ (fun hHeld => ?_)
              clear hK K
              try simp only [Act.put, Take.nm]
              refine wpAnyH_ready (rs := [13]) (by kernel_rfl) (by simp) ?_
              refine AllReadyH.cons (o := _) (by rfl) (fun K hK => ?_) AllReadyH.nil
              clear hHeld
              go_simp
              go_at_call 14; (with_reducible refine (CSB.out _ _ _ PTB.out PB.out).mono ?_); rintro e x ⟨rfl, hbx⟩; replace BX := Go.Lib.hid (BX.out.trans (hbx.mono BX.out.size)); obtain ⟨d0, d1⟩ := HKX.out _ BX.out; clear hbx
              (try go_wp2_with fail)
              refine hK.out _ _ ⟨d0, d1⟩ (fun hHeld => ?_)
              clear hK K
              try simp only [Act.put, Take.nm]
              refine Take.tk 14 152 hHeld ?_
              refine Take.tk 15 153 hHeld ?_
              try simp only [Act.put, Take.nm]
              refine Take.tk 16 154 hHeld ?_
              refine Take.tk 17 155 hHeld ?_
              try simp only [Act.put, Take.nm]
              refine Take.tk 18 156 hHeld ?_
              refine Take.tk 20 158 hHeld ?_
              try simp only [Act.put, Take.nm]
              try simp only [Act.put, Take.nm]
              refine wpAnyH_ready (rs := [19]) (by kernel_rfl) (by simp) ?_
              refine AllReadyH.cons (o := _) (by rfl) (fun K hK => ?_) AllReadyH.nil
              clear hHeld
              go_simp
              go_at_call 18; (with_reducible refine (CTC.out _ BX.out).mono ?_); rintro e x ⟨rfl, hbx⟩; replace BX := Go.Lib.hid (BX.out.trans (hbx.mono BX.out.size)); obtain ⟨d0, d1⟩ := HKX.out _ BX.out; clear hbx
              (try go_wp2_with fail)
              refine hK.out _ _ ⟨d0, d1⟩ (fun hHeld => ?_)
              clear hK K
              try simp only [Act.put, Take.nm]
              refine Take.tk 21 159 hHeld ?_
              refine Take.tk 22 160 hHeld ?_
              try simp only [Act.put, Take.nm]
              refine Take.tk 23 161 hHeld ?_
              refine Take.tk 24 162 hHeld ?_
              try simp only [Act.put, Take.nm]
              refine Take.tk 26 164 hHeld ?_
              refine Take.tk 27 165 hHeld ?_
              try simp only [Act.put, Take.nm]
              try simp only [Act.put, Take.nm]
              refine wpAnyH_ready (rs := [25]) (by kernel_rfl) (by simp) ?_
              refine AllReadyH.cons (o := _) (by rfl) (fun K hK => ?_) AllReadyH.nil
              clear hHeld
              go_simp
              go_at_call 19; (with_reducible refine (CTL.out _ BX.out).mono ?_); rintro e x ⟨rfl, hbx⟩; replace BX := Go.Lib.hid (BX.out.trans (hbx.mono BX.out.size)); obtain ⟨d0, d1⟩ := HKX.out _ BX.out; clear hbx
              (try go_wp2_with fail)
              refine hK.out _ _ ⟨d0, d1⟩ (fun hHeld => ?_)
              clear hK K
              try simp only [Act.put, Take.nm]
              refine Take.tk 28 166 hHeld ?_
              refine Take.tk 29 167 hHeld ?_
              try simp only [Act.put, Take.nm]
              try simp only [Act.put, Take.nm]
              clear hHeld
              refine wpAnyH_done (by kernel_rfl) ?_ _
              refine NoPanic.normal ?_
              clear d0 d1
              go_wp2_with (go_at_call 20; (with_reducible refine (CTX.out _ BX.out).mono ?_); rintro e xx ⟨AX, cX, rfl, hpx, hbx⟩; have PX := Go.Lib.hid hpx; replace BX := Go.Lib.hid (BX.out.trans (hbx.mono BX.out.size)); clear hpx hbx)
              go_loopw [21] (fun v21 wx => ∃ k : Nat, k ≤ m2 ∧ v21 = .int .i64 k ∧ Hid (Below xx.heap.size xx wx)) (fun v21 _ => m2 - (intOf v21).toNat)
              case atStart => exact ⟨0, Nat.zero_le _, rfl, Go.Lib.hid (Below.refl _ _)⟩
              case round =>
                obtain ⟨k, hk, rfl, hbk⟩ := hrel
                have BK := Go.Lib.hid (BX.out.trans (hbk.out.mono BX.out.size))
                by_cases hkm : k < m2
                · obtain ⟨ex, hex⟩ : ∃ r, rows2[k]? = some r := ⟨_, List.getElem?_eq_getElem (by have := HM2.out; omega)⟩
                  obtain ⟨e0, e1, -⟩ := HCR.out _ BK.out _ _ hex
                  obtain ⟨b5, o5, rfl, hb5, t0, t1⟩ := (PX.out).at_ (show LK[k]? = some ex.p by rw [HLK.out]; exact keys_at hex)
                  replace t0 := (hbk.out.cell (p := ⟨b5, o5 + k * 2, none⟩) hb5).trans t0
                  replace t1 := (hbk.out.cell (p := ⟨b5, o5 + k * 2 + 1, none⟩) hb5).trans t1
                  generalize ex.p.a = ea at *
                  generalize ex.p.n = en at *
                  have z0 : (0 : Int) ≤ (k : Int) := by omega
                  have z1 : (k : Int) < (m2 : Int) := by omega
                  clear hex hb5
                  go_wp2
                  go_quiet (fail)
                  go_wp2
                  go_roundw
                  case rel => exact ⟨k + 1, hkm, by go_num, Go.Lib.hid (hbk.out.trans ((Mem.below_drewN _ _).mono hbk.out.size))⟩
                  case measure => simp [intOf]; omega
                · have z1 : decide ((k : Int) < (m2 : Int)) = false := decide_eq_false (by omega)
                  go_wp2
                  go_roundw
                  case rel => exact ⟨j + 1, m2, true, _, _, rows2, hj1.1, hj1.2, by go_num, rfl, rfl, hmj2, HM2, Go.Lib.hid (P2.out.keep FT BK.out), Go.Lib.hid (B2.out.trans (BK.out.mono B2.out.size))⟩
                  case measure => simp [intOf]; omega
          · rw [h1] at CA
            rw [h2, h3] at CG
            rw [h3, show ((LB.length + (if true = true then 1 else 0) : Nat) : Int) = (LB.length : Int) + 1 from by simp] at CTC
            simp only [idxV] at CA
            have hkl := (List.getElem?_eq_some_iff.1 h4).1
            have p0 : (0 : Int) ≤ (kp : Int) := by omega
            have p1 : (kp : Int) < (m2 : Int) := by have := HM2.out; omega
            have HPV := Go.Lib.hid (fun (W : World) (h : Below w2.heap.size w2 W) => (HCR.out W h kp ep h4).2.2)
            generalize ep.v = pv at *
            clear h1 h2 h3 h4 hkl
            cases hlo : longE a none rows2 with
            | none =>
              replace CF := Go.Lib.hid (fun (W : World) (h : Below w2.heap.size w2 W) => far_none hlo (CF.out W h))
              rw [hlo] at CL
              unfold longV at CL
              dsimp only at CL
              clear hlo
              go_upto_region 11 with (first
                | (go_at_call 9; (with_reducible refine (CA.out _ BX.out).mono ?_); rintro e x ⟨rfl, hbx⟩; replace BX := Go.Lib.hid (BX.out.trans (hbx.mono BX.out.size)); obtain ⟨d0, d1⟩ := HKX.out _ BX.out; clear hbx)
                | (go_at_call 10; (with_reducible refine (CF.out _ BX.out).mono ?_); rintro e x ⟨rfl, hbx⟩; replace BX := Go.Lib.hid (BX.out.trans (hbx.mono BX.out.size)); obtain ⟨d0, d1⟩ := HKX.out _ BX.out; clear hbx)
                | (go_at_call 11; (with_reducible refine (CG.out _ BX.out).mono ?_); rintro e x ⟨rfl, hbx⟩; replace BX := Go.Lib.hid (BX.out.trans (hbx.mono BX.out.size)); obtain ⟨d0, d1⟩ := HKX.out _ BX.out; clear hbx)
                | (go_at_call 12; (with_reducible refine (CL.out _ BX.out).mono ?_); rintro e x ⟨rfl, hbx⟩; replace BX := Go.Lib.hid (BX.out.trans (hbx.mono BX.out.size)); obtain ⟨d0, d1⟩ := HKX.out _ BX.out; clear hbx))
              obtain ⟨f0, f1⟩ := cells_two x (.int .u32 0) (.int .i64 0) 25
              have hbx := below_new x (.cells #[.int .u32 0, .int .i64 0] 25)
              obtain ⟨W5, hW5⟩ : ∃ W, W = x.alloc (.cells #[.int .u32 0, .int .i64 0] 25) := ⟨_, rfl⟩
              rw [← hW5] at f0 f1 hbx ⊢
              replace BX := Go.Lib.hid (BX.out.trans (hbx.mono BX.out.size))
              generalize x.heap.size = qb at *
              clear hW5 hbx
              have px := HPV.out _ BX.out
              refine wp_code (C := r11C) (by kernel_rfl) ?_
              refine r11_SN _ _ _ _ _ _ _ _ _ _ _ _ _ _ _ _ _ _ _ _ _ _ _ _ _ _ _ _ _ _ _ _ _ _ _ _ _ _ _ _ _ _ _ _ _ _ _ _ _ _ _ _ _ _ _ _ _ _ _ _ _ _ _ _ _ _ _ _ _ _ _ _ _ _ _ _ _ _ _ _ _ _ _ _ _ _ _ _ _ _ _ _ _ _ _ _ _ _ _ _ _ _ _ _ _ _ _ _ _ _ _ _ _ _ _ _ _ _ _ _ _ _ _ _ _ _ _ _ _ _ _ _ _ _ _ _ _ _ _ _ _ _ _ _ _ _ _ _ _ _ _ _ _ _ _ _ _ _ _ _ _ _ _ _ _ _ _ _ _ _ _ _ _ _ _ _ _ _ _ _ _ _ _ _ _ _ _ _ _ _ _ _ _ f0 f1 p1 px ?_
              intro x65 x66 x67 x68 x69 x70 x71 x72 x73 x74 x75 x76 x77 x78 x79 x80 x81 x82 x83 x84 x85 x86 x87 x88 x89 x90 x91 x92 x93 x94 x95 x96 x97 x98 x99 x100 x101 x102 x103 x104 x105 x106 x107 x108 x109 x110 x111 x112 x113 x114 x115 x116 x117 x118 x119 x120 x121 x122 x123 x124 x125 x126 x127
              clear f0 f1 px
              replace BX := Go.Lib.hid BX.out.drew
              obtain ⟨d0, d1⟩ := HKX.out _ BX.out
              go_upto_region 17 with (go_at_call 13; (with_reducible refine (CRB.out _ BX.out).mono ?_); rintro e x ⟨AB, cB, rfl, ho, hbx⟩; have PB := Go.Lib.hid (Pfxs.of_own ho OB.out); replace BX := Go.Lib.hid (BX.out.trans (hbx.mono BX.out.size)); obtain ⟨d0, d1⟩ := HKX.out _ BX.out; clear ho; clear hbx)
              replace BX := Go.Lib.hid BX.out.drew
              replace PB := Go.Lib.hid (PB.out.keep (Below.refl _ _).drew)
              obtain ⟨d0, d1⟩ := HKX.out _ BX.out
              refine wp_region_noPanic ?_
              refine wp_region_held_drew (S := fun w' => w'.cell? ⟨w.heap.size, 0, none⟩ = some (.int .u32 (qa : Int)) ∧ w'.cell? ⟨w.heap.size, 1, none⟩ = some (.int .i64 qn)) (by kernel_rfl) ⟨d0, d1⟩ (fun hHeld => ?_)
              refine Take.tk 0 138 hHeld ?_
              refine Take.tk 1 139 hHeld ?_
              try simp only [Act.put, Take.nm]
              refine Take.tk 3 141 hHeld ?_
              refine Take.tk 4 142 hHeld ?_
              try simp only [Act.put, Take.nm]
              try simp only [Act.put, Take.nm]
              refine wpAnyH_ready (rs := [2]) (by kernel_rfl) (by simp) ?_
              refine AllReadyH.cons (o := _) (by rfl) (fun K hK => ?_) AllReadyH.nil
              clear hHeld
              go_simp
              go_at_call 15; (with_reducible refine (CTA.out _ BX.out).mono ?_); rintro e x ⟨ATA, cTA, rfl, ho, hbx⟩; replace PB := Go.Lib.hid (PB.out.keep hbx); have PTA := Go.Lib.hid (Pfxs.of_own ho OA.out); replace BX := Go.Lib.hid (BX.out.trans (hbx.mono BX.out.size)); obtain ⟨d0, d1⟩ := HKX.out _ BX.out; clear ho; clear hbx
              (try go_wp2_with fail)
              refine hK.out _ _ ⟨d0, d1⟩ (fun hHeld => ?_)
              clear hK K
              try simp only [Act.put, Take.nm]
              refine wpAnyH_ready (rs := [5]) (by kernel_rfl) (by simp) ?_
              refine AllReadyH.cons (o := _) (by rfl) (fun K hK => ?_) AllReadyH.nil
              clear hHeld
              go_simp
              go_at_call 16; (with_reducible refine (CRA.out _ BX.out).mono ?_); rintro e x ⟨ARA, cRA, rfl, ho, hbx⟩; replace PB := Go.Lib.hid (PB.out.keep hbx); replace PTA := Go.Lib.hid (PTA.out.keep hbx); have PRA := Go.Lib.hid (Pfxs.of_own ho OA.out); replace BX := Go.Lib.hid (BX.out.trans (hbx.mono BX.out.size)); obtain ⟨d0, d1⟩ := HKX.out _ BX.out; clear ho; clear hbx
              (try go_wp2_with fail)
              refine hK.out _ _ ⟨d0, d1⟩ (fun hHeld => ?_)
              clear hK K
              try simp only [Act.put, Take.nm]
              refine wpAnyH_ready (rs := [6]) (by kernel_rfl) (by simp) ?_
              refine AllReadyH.cons (o := _) (by rfl) (fun K hK => ?_) AllReadyH.nil
              clear hHeld
              go_simp
              go_at_call 14; (with_reducible refine (CSA.out _ _ _ PTA.out PRA.out).mono ?_); rintro e x ⟨rfl, hbx⟩; replace BX := Go.Lib.hid (BX.out.trans (hbx.mono BX.out.size)); obtain ⟨d0, d1⟩ := HKX.out _ BX.out; replace PB := Go.Lib.hid (PB.out.keep hbx); clear hbx
              (try go_wp2_with fail)
              refine hK.out _ _ ⟨d0, d1⟩ (fun hHeld => ?_)
              clear hK K
              try simp only [Act.put, Take.nm]
              refine Take.tk 7 145 hHeld ?_
              refine Take.tk 8 146 hHeld ?_
              try simp only [Act.put, Take.nm]
              refine Take.tk 9 147 hHeld ?_
              refine Take.tk 10 148 hHeld ?_
              try simp only [Act.put, Take.nm]
              refine Take.tk 12 150 hHeld ?_
              try simp only [Act.put, Take.nm]
              refine wpAnyH_ready (rs := [11]) (by kernel_rfl) (by simp) ?_
              refine AllReadyH.cons (o := _) (by rfl) (fun K hK => ?_) AllReadyH.nil
              clear hHeld
              go_simp
              go_at_call 17; (with_reducible refine (CTB.out _ BX.out).mono ?_); rintro e x ⟨ATB, cTB, rfl, ho, hbx⟩; replace PB := Go.Lib.hid (PB.out.keep hbx); have PTB := Go.Lib.hid (Pfxs.of_own ho OB.out); replace BX := Go.Lib.hid (BX.out.trans (hbx.mono BX.out.size)); obtain ⟨d0, d1⟩ := HKX.out _ BX.out; clear ho; clear hbx
              (try go_wp2_with fail)
              refine hK.out _ _ ⟨d0, d1⟩ (fun hHeld => ?_)
              clear hK K
              try simp only [Act.put, Take.nm]
              refine wpAnyH_ready (rs := [13]) (by kernel_rfl) (by simp) ?_
              refine AllReadyH.cons (o := _) (by rfl) (fun K hK => ?_) AllReadyH.nil
              clear hHeld
              go_simp
              go_at_call 14; (with_reducible refine (CSB.out _ _ _ PTB.out PB.out).mono ?_); rintro e x ⟨rfl, hbx⟩; replace BX := Go.Lib.hid (BX.out.trans (hbx.mono BX.out.size)); obtain ⟨d0, d1⟩ := HKX.out _ BX.out; clear hbx
              (try go_wp2_with fail)
              refine hK.out _ _ ⟨d0, d1⟩ (fun hHeld => ?_)
              clear hK K
              try simp only [Act.put, Take.nm]
              refine Take.tk 14 152 hHeld ?_
              refine Take.tk 15 153 hHeld ?_
              try simp only [Act.put, Take.nm]
              refine Take.tk 16 154 hHeld ?_
              refine Take.tk 17 155 hHeld ?_
              try simp only [Act.put, Take.nm]
              refine Take.tk 18 156 hHeld ?_
              refine Take.tk 20 158 hHeld ?_
              try simp only [Act.put, Take.nm]
              try simp only [Act.put, Take.nm]
              refine wpAnyH_ready (rs := [19]) (by kernel_rfl) (by simp) ?_
              refine AllReadyH.cons (o := _) (by rfl) (fun K hK => ?_) AllReadyH.nil
              clear hHeld
              go_simp
              go_at_call 18; (with_reducible refine (CTC.out _ BX.out).mono ?_); rintro e x ⟨rfl, hbx⟩; replace BX := Go.Lib.hid (BX.out.trans (hbx.mono BX.out.size)); obtain ⟨d0, d1⟩ := HKX.out _ BX.out; clear hbx
              (try go_wp2_with fail)
              refine hK.out _ _ ⟨d0, d1⟩ (fun hHeld => ?_)
              clear hK K
              try simp only [Act.put, Take.nm]
              refine Take.tk 21 159 hHeld ?_
              refine Take.tk 22 160 hHeld ?_
              try simp only [Act.put, Take.nm]
              refine Take.tk 23 161 hHeld ?_
              refine Take.tk 24 162 hHeld ?_
              try simp only [Act.put, Take.nm]
              refine Take.tk 26 164 hHeld ?_
              refine Take.tk 27 165 hHeld ?_
              try simp only [Act.put, Take.nm]
              try simp only [Act.put, Take.nm]
              refine wpAnyH_ready (rs := [25]) (by kernel_rfl) (by simp) ?_
              refine AllReadyH.cons (o := _) (by rfl) (fun K hK => ?_) AllReadyH.nil
              clear hHeld
              go_simp
              go_at_call 19; (with_reducible refine (CTL.out _ BX.out).mono ?_); rintro e x ⟨rfl, hbx⟩; replace BX := Go.Lib.hid (BX.out.trans (hbx.mono BX.out.size)); obtain ⟨d0, d1⟩ := HKX.out _ BX.out; clear hbx
              (try go_wp2_with fail)
              refine hK.out _ _ ⟨d0, d1⟩ (fun hHeld => ?_)
              clear hK K
              try simp only [Act.put, Take.nm]
              refine Take.tk 28 166 hHeld ?_
              refine Take.tk 29 167 hHeld ?_
              try simp only [Act.put, Take.nm]
              try simp only [Act.put, Take.nm]
              clear hHeld
              refine wpAnyH_done (by kernel_rfl) ?_ _
              refine NoPanic.normal ?_
              clear d0 d1
              go_wp2_with (go_at_call 20; (with_reducible refine (CTX.out _ BX.out).mono ?_); rintro e xx ⟨AX, cX, rfl, hpx, hbx⟩; have PX := Go.Lib.hid hpx; replace BX := Go.Lib.hid (BX.out.trans (hbx.mono BX.out.size)); clear hpx hbx)
              go_loopw [21] (fun v21 wx => ∃ k : Nat, k ≤ m2 ∧ v21 = .int .i64 k ∧ Hid (Below xx.heap.size xx wx)) (fun v21 _ => m2 - (intOf v21).toNat)
              case atStart => exact ⟨0, Nat.zero_le _, rfl, Go.Lib.hid (Below.refl _ _)⟩
              case round =>
                obtain ⟨k, hk, rfl, hbk⟩ := hrel
                have BK := Go.Lib.hid (BX.out.trans (hbk.out.mono BX.out.size))
                by_cases hkm : k < m2
                · obtain ⟨ex, hex⟩ : ∃ r, rows2[k]? = some r := ⟨_, List.getElem?_eq_getElem (by have := HM2.out; omega)⟩
                  obtain ⟨e0, e1, -⟩ := HCR.out _ BK.out _ _ hex
                  obtain ⟨b5, o5, rfl, hb5, t0, t1⟩ := (PX.out).at_ (show LK[k]? = some ex.p by rw [HLK.out]; exact keys_at hex)
                  replace t0 := (hbk.out.cell (p := ⟨b5, o5 + k * 2, none⟩) hb5).trans t0
                  replace t1 := (hbk.out.cell (p := ⟨b5, o5 + k * 2 + 1, none⟩) hb5).trans t1
                  generalize ex.p.a = ea at *
                  generalize ex.p.n = en at *
                  have z0 : (0 : Int) ≤ (k : Int) := by omega
                  have z1 : (k : Int) < (m2 : Int) := by omega
                  clear hex hb5
                  go_wp2
                  go_quiet (fail)
                  go_wp2
                  go_roundw
                  case rel => exact ⟨k + 1, hkm, by go_num, Go.Lib.hid (hbk.out.trans ((Mem.below_drewN _ _).mono hbk.out.size))⟩
                  case measure => simp [intOf]; omega
                · have z1 : decide ((k : Int) < (m2 : Int)) = false := decide_eq_false (by omega)
                  go_wp2
                  go_roundw
                  case rel => exact ⟨j + 1, m2, true, _, _, rows2, hj1.1, hj1.2, by go_num, rfl, rfl, hmj2, HM2, Go.Lib.hid (P2.out.keep FT BK.out), Go.Lib.hid (B2.out.trans (BK.out.mono B2.out.size))⟩
                  case measure => simp [intOf]; omega
            | some ey =>
              replace CF := Go.Lib.hid (fun (W : World) (h : Below w2.heap.size w2 W) => far_some hlo (CF.out W h))
              rw [hlo] at CL
              unfold longV pV at CL
              obtain ⟨⟨ya, yn⟩, yv⟩ := ey
              dsimp only at CL
              clear hlo
              go_upto_region 11 with (first
                | (go_at_call 9; (with_reducible refine (CA.out _ BX.out).mono ?_); rintro e x ⟨rfl, hbx⟩; replace BX := Go.Lib.hid (BX.out.trans (hbx.mono BX.out.size)); obtain ⟨d0, d1⟩ := HKX.out _ BX.out; clear hbx)
                | (go_at_call 10; (with_reducible refine (CF.out _ BX.out).mono ?_); rintro e x ⟨ky, rfl, hky, hye, hbx⟩; have HYE := Go.Lib.hid hye; have HKY := Go.Lib.hid hky; replace BX := Go.Lib.hid (BX.out.trans (hbx.mono BX.out.size)); obtain ⟨d0, d1⟩ := HKX.out _ BX.out; clear hye hky; clear hbx)
                | (go_at_call 11; (with_reducible refine (CG.out _ BX.out).mono ?_); rintro e x ⟨rfl, hbx⟩; replace BX := Go.Lib.hid (BX.out.trans (hbx.mono BX.out.size)); obtain ⟨d0, d1⟩ := HKX.out _ BX.out; clear hbx)
                | (go_at_call 12; (with_reducible refine (CL.out _ BX.out).mono ?_); rintro e x ⟨rfl, hbx⟩; replace BX := Go.Lib.hid (BX.out.trans (hbx.mono BX.out.size)); obtain ⟨d0, d1⟩ := HKX.out _ BX.out; clear hbx))
              obtain ⟨f0, f1⟩ := cells_two x (.int .u32 (ya : Int)) (.int .i64 yn) 25
              have hbx := below_new x (.cells #[.int .u32 (ya : Int), .int .i64 yn] 25)
              obtain ⟨W5, hW5⟩ : ∃ W, W = x.alloc (.cells #[.int .u32 (ya : Int), .int .i64 yn] 25) := ⟨_, rfl⟩
              rw [← hW5] at f0 f1 hbx ⊢
              replace BX := Go.Lib.hid (BX.out.trans (hbx.mono BX.out.size))
              generalize x.heap.size = qb at *
              clear hW5 hbx
              have px := HPV.out _ BX.out
              obtain ⟨y0, y1, y2⟩ := HCR.out _ BX.out _ _ HYE.out
              dsimp only at y0 y1 y2
              have s1 : (ky : Int) < (m2 : Int) := by have := HM2.out; have := HKY.out; omega
              refine wp_code (C := r11C) (by kernel_rfl) ?_
              refine r11_SS _ _ _ _ _ _ _ _ _ _ _ _ _ _ _ _ _ _ _ _ _ _ _ _ _ _ _ _ _ _ _ _ _ _ _ _ _ _ _ _ _ _ _ _ _ _ _ _ _ _ _ _ _ _ _ _ _ _ _ _ _ _ _ _ _ _ _ _ _ _ _ _ _ _ _ _ _ _ _ _ _ _ _ _ _ _ _ _ _ _ _ _ _ _ _ _ _ _ _ _ _ _ _ _ _ _ _ _ _ _ _ _ _ _ _ _ _ _ _ _ _ _ _ _ _ _ _ _ _ _ _ _ _ _ _ _ _ _ _ _ _ _ _ _ _ _ _ _ _ _ _ _ _ _ _ _ _ _ _ _ _ _ _ _ _ _ _ _ _ _ _ _ _ _ _ _ _ _ _ _ _ _ _ _ _ _ _ _ _ _ _ _ _ _ _ _ _ f0 f1 p1 px s1 y0 y1 y2 ?_
              intro x65 x66 x67 x68 x69 x70 x71 x72 x73 x74 x75 x76 x77 x78 x79 x80 x81 x82 x83 x84 x85 x86 x87 x88 x89 x90 x91 x92 x93 x94 x95 x96 x97 x98 x99 x100 x101 x102 x103 x104 x105 x106 x107 x108 x109 x110 x111 x112 x113 x114 x115 x116 x117 x118 x119 x120 x121 x122 x123 x124 x125 x126 x127
              clear f0 f1 px y0 y1 y2
              replace BX := Go.Lib.hid BX.out.drew
              obtain ⟨d0, d1⟩ := HKX.out _ BX.out
              go_upto_region 17 with (go_at_call 13; (with_reducible refine (CRB.out _ BX.out).mono ?_); rintro e x ⟨AB, cB, rfl, ho, hbx⟩; have PB := Go.Lib.hid (Pfxs.of_own ho OB.out); replace BX := Go.Lib.hid (BX.out.trans (hbx.mono BX.out.size)); obtain ⟨d0, d1⟩ := HKX.out _ BX.out; clear ho; clear hbx)
              replace BX := Go.Lib.hid BX.out.drew
              replace PB := Go.Lib.hid (PB.out.keep (Below.refl _ _).drew)
              obtain ⟨d0, d1⟩ := HKX.out _ BX.out
              refine wp_region_noPanic ?_
              refine wp_region_held_drew (S := fun w' => w'.cell? ⟨w.heap.size, 0, none⟩ = some (.int .u32 (qa : Int)) ∧ w'.cell? ⟨w.heap.size, 1, none⟩ = some (.int .i64 qn)) (by kernel_rfl) ⟨d0, d1⟩ (fun hHeld => ?_)
              refine Take.tk 0 138 hHeld ?_
              refine Take.tk 1 139 hHeld ?_
              try simp only [Act.put, Take.nm]
              refine Take.tk 3 141 hHeld ?_
              refine Take.tk 4 142 hHeld ?_
              try simp only [Act.put, Take.nm]
              try simp only [Act.put, Take.nm]
              refine wpAnyH_ready (rs := [2]) (by kernel_rfl) (by simp) ?_
              refine AllReadyH.cons (o := _) (by rfl) (fun K hK => ?_) AllReadyH.nil
              clear hHeld
              go_simp
              go_at_call 15; (with_reducible refine (CTA.out _ BX.out).mono ?_); rintro e x ⟨ATA, cTA, rfl, ho, hbx⟩; replace PB := Go.Lib.hid (PB.out.keep hbx); have PTA := Go.Lib.hid (Pfxs.of_own ho OA.out); replace BX := Go.Lib.hid (BX.out.trans (hbx.mono BX.out.size)); obtain ⟨d0, d1⟩ := HKX.out _ BX.out; clear ho; clear hbx
              (try go_wp2_with fail)
              refine hK.out _ _ ⟨d0, d1⟩ (fun hHeld => ?_)
              clear hK K
              try simp only [Act.put, Take.nm]
              refine wpAnyH_ready (rs := [5]) (by kernel_rfl) (by simp) ?_
              refine AllReadyH.cons (o := _) (by rfl) (fun K hK => ?_) AllReadyH.nil
              clear hHeld
              go_simp
              go_at_call 16; (with_reducible refine (CRA.out _ BX.out).mono ?_); rintro e x ⟨ARA, cRA, rfl, ho, hbx⟩; replace PB := Go.Lib.hid (PB.out.keep hbx); replace PTA := Go.Lib.hid (PTA.out.keep hbx); have PRA := Go.Lib.hid (Pfxs.of_own ho OA.out); replace BX := Go.Lib.hid (BX.out.trans (hbx.mono BX.out.size)); obtain ⟨d0, d1⟩ := HKX.out _ BX.out; clear ho; clear hbx
              (try go_wp2_with fail)
              refine hK.out _ _ ⟨d0, d1⟩ (fun hHeld => ?_)
              clear hK K
              try simp only [Act.put, Take.nm]
              refine wpAnyH_ready (rs := [6]) (by kernel_rfl) (by simp) ?_
              refine AllReadyH.cons (o := _) (by rfl) (fun K hK => ?_) AllReadyH.nil
              clear hHeld
              go_simp
              go_at_call 14; (with_reducible refine (CSA.out _ _ _ PTA.out PRA.out).mono ?_); rintro e x ⟨rfl, hbx⟩; replace BX := Go.Lib.hid (BX.out.trans (hbx.mono BX.out.size)); obtain ⟨d0, d1⟩ := HKX.out _ BX.out; replace PB := Go.Lib.hid (PB.out.keep hbx); clear hbx
              (try go_wp2_with fail)
              refine hK.out _ _ ⟨d0, d1⟩ (fun hHeld => ?_)
              clear hK K
              try simp only [Act.put, Take.nm]
              refine Take.tk 7 145 hHeld ?_
              refine Take.tk 8 146 hHeld ?_
              try simp only [Act.put, Take.nm]
              refine Take.tk 9 147 hHeld ?_
              refine Take.tk 10 148 hHeld ?_
              try simp only [Act.put, Take.nm]
              refine Take.tk 12 150 hHeld ?_
              try simp only [Act.put, Take.nm]
              refine wpAnyH_ready (rs := [11]) (by kernel_rfl) (by simp) ?_
              refine AllReadyH.cons (o := _) (by rfl) (fun K hK => ?_) AllReadyH.nil
              clear hHeld
              go_simp
              go_at_call 17; (with_reducible refine (CTB.out _ BX.out).mono ?_); rintro e x ⟨ATB, cTB, rfl, ho, hbx⟩; replace PB := Go.Lib.hid (PB.out.keep hbx); have PTB := Go.Lib.hid (Pfxs.of_own ho OB.out); replace BX := Go.Lib.hid (BX.out.trans (hbx.mono BX.out.size)); obtain ⟨d0, d1⟩ := HKX.out _ BX.out; clear ho; clear hbx
              (try go_wp2_with fail)
              refine hK.out _ _ ⟨d0, d1⟩ (fun hHeld => ?_)
              clear hK K
              try simp only [Act.put, Take.nm]
              refine wpAnyH_ready (rs := [13]) (by kernel_rfl) (by simp) ?_
              refine AllReadyH.cons (o := _) (by rfl) (fun K hK => ?_) AllReadyH.nil
              clear hHeld
              go_simp
              go_at_call 14; (with_reducible refine (CSB.out _ _ _ PTB.out PB.out).mono ?_); rintro e x ⟨rfl, hbx⟩; replace BX := Go.Lib.hid (BX.out.trans (hbx.mono BX.out.size)); obtain ⟨d0, d1⟩ := HKX.out _ BX.out; clear hbx
              (try go_wp2_with fail)
              refine hK.out _ _ ⟨d0, d1⟩ (fun hHeld => ?_)
              clear hK K
              try simp only [Act.put, Take.nm]
              refine Take.tk 14 152 hHeld ?_
              refine Take.tk 15 153 hHeld ?_
              try simp only [Act.put, Take.nm]
              refine Take.tk 16 154 hHeld ?_
              refine Take.tk 17 155 hHeld ?_
              try simp only [Act.put, Take.nm]
              refine Take.tk 18 156 hHeld ?_
              refine Take.tk 20 158 hHeld ?_
              try simp only [Act.put, Take.nm]
              try simp only [Act.put, Take.nm]
              refine wpAnyH_ready (rs := [19]) (by kernel_rfl) (by simp) ?_
              refine AllReadyH.cons (o := _) (by rfl) (fun K hK => ?_) AllReadyH.nil
              clear hHeld
              go_simp
              go_at_call 18; (with_reducible refine (CTC.out _ BX.out).mono ?_); rintro e x ⟨rfl, hbx⟩; replace BX := Go.Lib.hid (BX.out.trans (hbx.mono BX.out.size)); obtain ⟨d0, d1⟩ := HKX.out _ BX.out; clear hbx
              (try go_wp2_with fail)
              refine hK.out _ _ ⟨d0, d1⟩ (fun hHeld => ?_)
              clear hK K
              try simp only [Act.put, Take.nm]
              refine Take.tk 21 159 hHeld ?_
              refine Take.tk 22 160 hHeld ?_
              try simp only [Act.put, Take.nm]
              refine Take.tk 23 161 hHeld ?_
              refine Take.tk 24 162 hHeld ?_
              try simp only [Act.put, Take.nm]
              refine Take.tk 26 164 hHeld ?_
              refine Take.tk 27 165 hHeld ?_
              try simp only [Act.put, Take.nm]
              try simp only [Act.put, Take.nm]
              refine wpAnyH_ready (rs := [25]) (by kernel_rfl) (by simp) ?_
              refine AllReadyH.cons (o := _) (by rfl) (fun K hK => ?_) AllReadyH.nil
              clear hHeld
              go_simp
              go_at_call 19; (with_reducible refine (CTL.out _ BX.out).mono ?_); rintro e x ⟨rfl, hbx⟩; replace BX := Go.Lib.hid (BX.out.trans (hbx.mono BX.out.size)); obtain ⟨d0, d1⟩ := HKX.out _ BX.out; clear hbx
              (try go_wp2_with fail)
              refine hK.out _ _ ⟨d0, d1⟩ (fun hHeld => ?_)
              clear hK K
              try simp only [Act.put, Take.nm]
              refine Take.tk 28 166 hHeld ?_
              refine Take.tk 29 167 hHeld ?_
              try simp only [Act.put, Take.nm]
              try simp only [Act.put, Take.nm]
              clear hHeld
              refine wpAnyH_done (by kernel_rfl) ?_ _
              refine NoPanic.normal ?_
              clear d0 d1
              go_wp2_with (go_at_call 20; (with_reducible refine (CTX.out _ BX.out).mono ?_); rintro e xx ⟨AX, cX, rfl, hpx, hbx⟩; have PX := Go.Lib.hid hpx; replace BX := Go.Lib.hid (BX.out.trans (hbx.mono BX.out.size)); clear hpx hbx)
              go_loopw [21] (fun v21 wx => ∃ k : Nat, k ≤ m2 ∧ v21 = .int .i64 k ∧ Hid (Below xx.heap.size xx wx)) (fun v21 _ => m2 - (intOf v21).toNat)
              case atStart => exact ⟨0, Nat.zero_le _, rfl, Go.Lib.hid (Below.refl _ _)⟩
              case round =>
                obtain ⟨k, hk, rfl, hbk⟩ := hrel
                have BK := Go.Lib.hid (BX.out.trans (hbk.out.mono BX.out.size))
                by_cases hkm : k < m2
                · obtain ⟨ex, hex⟩ : ∃ r, rows2[k]? = some r := ⟨_, List.getElem?_eq_getElem (by have := HM2.out; omega)⟩
                  obtain ⟨e0, e1, -⟩ := HCR.out _ BK.out _ _ hex
                  obtain ⟨b5, o5, rfl, hb5, t0, t1⟩ := (PX.out).at_ (show LK[k]? = some ex.p by rw [HLK.out]; exact keys_at hex)
                  replace t0 := (hbk.out.cell (p := ⟨b5, o5 + k * 2, none⟩) hb5).trans t0
                  replace t1 := (hbk.out.cell (p := ⟨b5, o5 + k * 2 + 1, none⟩) hb5).trans t1
                  generalize ex.p.a = ea at *
                  generalize ex.p.n = en at *
                  have z0 : (0 : Int) ≤ (k : Int) := by omega
                  have z1 : (k : Int) < (m2 : Int) := by omega
                  clear hex hb5
                  go_wp2
                  go_quiet (fail)
                  go_wp2
                  go_roundw
                  case rel => exact ⟨k + 1, hkm, by go_num, Go.Lib.hid (hbk.out.trans ((Mem.below_drewN _ _).mono hbk.out.size))⟩
                  case measure => simp [intOf]; omega
                · have z1 : decide ((k : Int) < (m2 : Int)) = false := decide_eq_false (by omega)
                  go_wp2
                  go_roundw
                  case rel => exact ⟨j + 1, m2, true, _, _, rows2, hj1.1, hj1.2, by go_num, rfl, rfl, hmj2, HM2, Go.Lib.hid (P2.out.keep FT BK.out), Go.Lib.hid (B2.out.trans (BK.out.mono B2.out.size))⟩
                  case measure => simp [intOf]; omega
      · have z1 : (j : Int) < (l.length : Int) := by omega
        have z2 : decide ((j : Int) < 60) = false := decide_eq_false (by omega)
        go_wp2_with (go_at_call 21; refine (LV.out _).mono ?_; rintro e w3 ⟨rfl, hb3⟩; have B3 := Go.Lib.hid (hb.out.trans (hb3.mono hb.out.size)); clear hb3)
        go_ret
        exact ⟨rfl, HB.out.trans (B3.out.mono HB.out.size)⟩
    · have z1 : decide ((j : Int) < (l.length : Int)) = false := decide_eq_false (by omega)
      go_wp2_with (go_at_call 21; refine (LV.out _).mono ?_; rintro e w3 ⟨rfl, hb3⟩; have B3 := Go.Lib.hid (hb.out.trans (hb3.mono hb.out.size)); clear hb3)
      go_ret
      exact ⟨rfl, HB.out.trans (B3.out.mono HB.out.size)⟩
end Go.Proofs.Ytpcahgnibdampaa.Tri
