/- The reference's Decode of an Update: what stands in memory. The reference's Decode of an Update. The reference's Decode of an Update: what stands in memory behind the looks at its attributes. The reference's Decode of an Update: two bytes and more. -/
import Derived.Test.YtlhdjdnflpilbaaGreatDoorG45
import Derived.Test.YtlhdjdnflpilbaaGreatDoorG24
import Derived.Test.YtlhdjdnflpilbaaGreatDoorG48
import Derived.Test.YtlhdjdnflpilbaaGreatDoorG20
import Derived.Deep.DeepCutAuto
import Derived.Test.YtlhdjdnflpilbaaGreatDoorG03
import Derived.Test.YtlhdjdnflpilbaaGreatDoorG18
import Derived.Laws.CopyOwn
import Derived.Test.YtlhdjdnflpilbaaGreatDoorG19
import Derived.Deep.RegionWith
import Derived.Deep.RegionLaw
import Derived.IntWalk
namespace Go.Proofs.YtlhdjdnflpilbaaGreatDoor.Upd
open Go.RowKit Mem Segm Oct Att Seg PR
theorem rno10_any (s : Int) (A : Option Addr) (n c : Nat) (w : World) : Calls Tryz.prog 49 #[.int .i64 s, .slice A n c] w (Tells (.tuple #[.agg #[.slice none 0 0, .int .i64 0, .int .i64 0, .slice none 0 0, .int .u32 0, .int .u32 0, .int .u32 0, .int .u32 0, .int .u32 0, .slice none 0 0, .slice none 0 0], .agg #[.int .i64 3, .int .i64 s, .slice A n c]]) w) := by
  have HB := Go.Lib.hid (((Below.refl w.heap.size w).alloc (Nat.le_refl _) (.cells #[.slice none 0 0, .int .i64 0, .int .i64 0, .slice none 0 0, .int .u32 0, .int .u32 0, .int .u32 0, .int .u32 0, .int .u32 0, .slice none 0 0, .slice none 0 0] 29)).alloc (by simp) (.cells #[.int .i64 3, .int .i64 s, .slice A n c] 41))
  go_enter Tryz.func49, Tryz.ntmps49
  go_wp2
  (try simp only [Exit.inBlock, Exit.then])
  refine bodyPost_ret (v := .tuple #[.agg #[.slice none 0 0, .int .i64 0, .int .i64 0, .slice none 0 0, .int .u32 0, .int .u32 0, .int .u32 0, .int .u32 0, .int .u32 0, .slice none 0 0, .slice none 0 0], .agg #[.int .i64 3, .int .i64 s, .slice A n c]]) (by simp [results, Tryz.results49, go_sem]) rfl ?_
  exact ⟨rfl, HB.out⟩
structure RdV (w : World) (vg : Value) (W : World) : Prop where
  rd : RdU w W
  bu : BoxU W (w.heap.size + 1 + 1) 29 zeroA vg (.slice none 0 0) (.slice none 0 0) (.slice none 0 0)
theorem RdV.below {w W W2 : World} {vg : Value} (h : RdV w vg W) (hb : Below W.heap.size W W2) : RdV w vg W2 := ⟨h.rd.below hb, h.bu.keep hb⟩
theorem RdV.set {w W : World} {vg : Value} (h : RdV w vg W) (v : Value) : RdV w v (W.setCell ⟨w.heap.size + 1 + 1, 0, none⟩ v) :=
  ⟨⟨h.rd.ru.far (by omega) _, h.rd.r3.far (by omega) _, h.rd.low.setCell (p := ⟨w.heap.size + 1 + 1, 0, none⟩) (by show w.heap.size ≤ w.heap.size + 1 + 1; omega) _⟩, ⟨(Box11.set0 (x0 := vg) ⟨h.bu.blk⟩ v).blk⟩⟩
def Out7 (base : Nat) (G : List Nat) (vg : Value) (s : Bool) (W : World) : Prop :=
  (dec val G = none ∧ s = false) ∨ ∃ L A c, dec val G = some L ∧ s = true ∧ vg = .slice A L.length c ∧ W.ownsRow base 63 2 (.slice A L.length c) L.length (pcells L) ∧ Oks L
theorem Out7.keep {base : Nat} {G : List Nat} {vg : Value} {s : Bool} {W W2 : World} (h : Out7 base G vg s W) (hb : Below W.heap.size W W2) : Out7 base G vg s W2 := by
  rcases h with h | ⟨L, A, c, h1, h2, h3, h4, h5⟩
  · exact .inl h
  · exact .inr ⟨L, A, c, h1, h2, h3, own_keep h4 hb, h5⟩
theorem Out7.off {n base : Nat} {G : List Nat} {vg : Value} {s : Bool} {W W2 : World} (h : Out7 base G vg s W) (hn : n ≤ base) (hk : ∀ k, n ≤ k → W2.heap[k]? = W.heap[k]?) : Out7 base G vg s W2 := by
  rcases h with h | ⟨L, A, c, h1, h2, h3, h4, h5⟩
  · exact .inl h
  · exact .inr ⟨L, A, c, h1, h2, h3, own_off h4 (fun k hk2 => hk k (Nat.le_trans hn hk2)), h5⟩
theorem out7_of {G : List Nat} {W w' : World} {e : Ending} (h : PR.DecF G W e w') : ∃ A n c s, e = .returned (.tuple #[.slice A n c, .bool s]) ∧ Out7 W.heap.size G (.slice A n c) s w' ∧ Below W.heap.size W w' := by
  rcases h with ⟨h1, h2, h3⟩ | ⟨L, A, c, h1, h2, h3, h4, h5⟩
  · exact ⟨none, 0, 0, false, h2, .inl ⟨h1, rfl⟩, h3⟩
  · exact ⟨A, L.length, c, true, h2, .inr ⟨L, A, c, h1, rfl, rfl, h3, h4⟩, h5⟩
def St7 (w : World) (G : List Nat) (s5 : Value) (W : World) : Prop :=
  ∃ A n c s, s5 = .bool s ∧ Out7 (w.heap.size + 3) G (.slice A n c) s W ∧ RdV w (.slice A n c) W
theorem RdV.ok0 {w W : World} {L : List Pf} {A : Option Addr} {c : Nat} (h : RdV w (.slice A L.length c) W) (ho : W.ownsRow (w.heap.size + 3) 63 2 (.slice A L.length c) L.length (pcells L)) (hk : Oks L) {b : List Nat} (hd : decU b = .inr ⟨L, zeroA, []⟩) :
    DecU b w (.returned (.tuple #[.agg #[.slice A L.length c, .int .i64 0, .int .i64 0, .slice none 0 0, .int .u32 0, .int .u32 0, .int .u32 0, .int .u32 0, .int .u32 0, .slice none 0 0, .slice none 0 0], .agg #[.int .i64 0, .int .i64 0, .slice none 0 0]])) (endU w W zeroA (.slice A L.length c) (.slice none 0 0) (.slice none 0 0) (.slice none 0 0) (.int .i64 0) (.int .i64 0) (.slice none 0 0)) := by
  have hoff := endU_off w W zeroA (.slice A L.length c) (.slice none 0 0) (.slice none 0 0) (.slice none 0 0) (.int .i64 0) (.int .i64 0) (.slice none 0 0)
  unfold DecU
  rw [hd]
  refine ⟨_, _, rfl, ⟨A, c, _, _, none, 0, rfl, own_base (own_off ho (fun k hk => hoff.1 k (by omega))) (by omega), hk, ⟨zeroA_ok, nil_segsF _ _ _, U32s.nil _, NewAt.nil _⟩, World.ownsRow_nil _ _ _ _, oks_nil⟩, ⟨(show (Lit.int .i64 0).wf = true by decide), (show (Lit.int .i64 0).wf = true by decide), _, rfl, U8s.nil _⟩, (h.rd.fin _ _ _ _ _ _ _ _).2.2⟩
structure S16 (w : World) (L : List Pf) (A : Option Addr) (c : Nat) (a : At) (n : No) (vp vc vd : Value) (B : Nat) (W : World) : Prop where
  hB : w.heap.size + 3 ≤ B
  rv : RdV w (.slice A L.length c) W
  own : W.ownsRow (w.heap.size + 3) 63 2 (.slice A L.length c) L.length (pcells L)
  at_ : AtF (w.heap.size + 3) W (aV a vp vc) a
  no : Note W (.agg #[.int .i64 n.code, .int .i64 n.sub, vd]) n
  b9 : Box9 W B 27 (.int .i64 a.has) (.int .i64 a.origin) vp (.int .u32 a.hop) (.int .u32 a.med) (.int .u32 a.pref) (.int .u32 a.aas) (.int .u32 a.aid) vc
  b3 : Box3 W (B + 1) 41 (.int .i64 n.code) (.int .i64 n.sub) vd
theorem S16.below {w : World} {L : List Pf} {A : Option Addr} {c : Nat} {a : At} {n : No} {vp vc vd : Value} {B : Nat} {W W2 : World} (h : S16 w L A c a n vp vc vd B W) (hb : Below W.heap.size W W2) : S16 w L A c a n vp vc vd B W2 :=
  ⟨h.hB, h.rv.below hb, own_keep h.own hb, atF_keep h.at_ hb, h.no.keep hb, h.b9.keep hb, h.b3.keep hb⟩
theorem s16_start {w : World} {L : List Pf} {A : Option Addr} {c : Nat} {a : At} {n : No} {vp vc vd : Value} {x : World} (hs : w.heap.size + 3 ≤ x.heap.size) (h1 : RdV w (.slice A L.length c) x) (h2 : x.ownsRow (w.heap.size + 3) 63 2 (.slice A L.length c) L.length (pcells L)) (h3 : AtF (w.heap.size + 3) x (aV a vp vc) a) (h4 : Note x (.agg #[.int .i64 n.code, .int .i64 n.sub, vd]) n) :
    S16 w L A c a n vp vc vd x.heap.size (((new16 x).setRow x.heap.size #[.int .i64 a.has, .int .i64 a.origin, vp, .int .u32 a.hop, .int .u32 a.med, .int .u32 a.pref, .int .u32 a.aas, .int .u32 a.aid, vc]).setRow (x.heap.size + 1) #[.int .i64 n.code, .int .i64 n.sub, vd]) := by
  have hb : Below x.heap.size x (((new16 x).setRow x.heap.size #[.int .i64 a.has, .int .i64 a.origin, vp, .int .u32 a.hop, .int .u32 a.med, .int .u32 a.pref, .int .u32 a.aas, .int .u32 a.aid, vc]).setRow (x.heap.size + 1) #[.int .i64 n.code, .int .i64 n.sub, vd]) :=
    below_setRow (below_setRow (new16_low x) (Nat.le_refl _) _) (by omega) _
  exact ⟨hs, h1.below hb, own_keep h2 hb, atF_keep h3 hb, h4.keep hb, ⟨(setRow_other _ _ _ _ (by omega)).trans (setRow_heap _ _ _ _ _ _ (new16_9 x))⟩, ⟨setRow_heap _ _ _ _ _ _ (new16_3 x _)⟩⟩
theorem rdv_start (w : World) : RdV w (.slice none 0 0) (((w.alloc (.cells #[.slice none 0 0, .int .i64 0, .int .i64 0, .slice none 0 0, .int .u32 0, .int .u32 0, .int .u32 0, .int .u32 0, .int .u32 0, .slice none 0 0, .slice none 0 0] 29)).alloc (.cells #[.int .i64 0, .int .i64 0, .slice none 0 0] 41)).alloc (.cells #[.slice none 0 0, .int .i64 0, .int .i64 0, .slice none 0 0, .int .u32 0, .int .u32 0, .int .u32 0, .int .u32 0, .int .u32 0, .slice none 0 0, .slice none 0 0] 29)) := by
  have h1 := BoxU.new w 29 zeroA (.slice none 0 0) (.slice none 0 0) (.slice none 0 0) (.slice none 0 0)
  have b1 : Below w.heap.size w (w.alloc (.cells #[.slice none 0 0, .int .i64 0, .int .i64 0, .slice none 0 0, .int .u32 0, .int .u32 0, .int .u32 0, .int .u32 0, .int .u32 0, .slice none 0 0, .slice none 0 0] 29)) := (Below.refl _ w).alloc (Nat.le_refl _) _
  have e1 : (w.alloc (.cells #[.slice none 0 0, .int .i64 0, .int .i64 0, .slice none 0 0, .int .u32 0, .int .u32 0, .int .u32 0, .int .u32 0, .int .u32 0, .slice none 0 0, .slice none 0 0] 29)).heap.size = w.heap.size + 1 := by simp
  obtain ⟨W1, hW1⟩ : ∃ W1, W1 = w.alloc (.cells #[.slice none 0 0, .int .i64 0, .int .i64 0, .slice none 0 0, .int .u32 0, .int .u32 0, .int .u32 0, .int .u32 0, .int .u32 0, .slice none 0 0, .slice none 0 0] 29) := ⟨_, rfl⟩
  have h1' : BoxU W1 w.heap.size 29 zeroA (.slice none 0 0) (.slice none 0 0) (.slice none 0 0) (.slice none 0 0) := by rw [hW1]; exact h1
  rw [← hW1] at b1 e1 ⊢
  have h2 := Box3.new W1 41 (.int .i64 0) (.int .i64 0) (.slice none 0 0)
  have b2 : Below W1.heap.size W1 (W1.alloc (.cells #[.int .i64 0, .int .i64 0, .slice none 0 0] 41)) := (Below.refl _ _).alloc (Nat.le_refl _) _
  have e2 : (W1.alloc (.cells #[.int .i64 0, .int .i64 0, .slice none 0 0] 41)).heap.size = w.heap.size + 1 + 1 := by simp [e1]
  rw [e1] at h2
  obtain ⟨W2, hW2⟩ : ∃ W2, W2 = W1.alloc (.cells #[.int .i64 0, .int .i64 0, .slice none 0 0] 41) := ⟨_, rfl⟩
  rw [← hW2] at h2 b2 e2 ⊢
  have h3 := BoxU.new W2 29 zeroA (.slice none 0 0) (.slice none 0 0) (.slice none 0 0) (.slice none 0 0)
  have b3 : Below W2.heap.size W2 (W2.alloc (.cells #[.slice none 0 0, .int .i64 0, .int .i64 0, .slice none 0 0, .int .u32 0, .int .u32 0, .int .u32 0, .int .u32 0, .int .u32 0, .slice none 0 0, .slice none 0 0] 29)) := (Below.refl _ _).alloc (Nat.le_refl _) _
  have h3' : BoxU (W2.alloc (.cells #[.slice none 0 0, .int .i64 0, .int .i64 0, .slice none 0 0, .int .u32 0, .int .u32 0, .int .u32 0, .int .u32 0, .int .u32 0, .slice none 0 0, .slice none 0 0] 29)) (w.heap.size + 1 + 1) 29 zeroA (.slice none 0 0) (.slice none 0 0) (.slice none 0 0) (.slice none 0 0) := by rw [← e2]; exact h3
  exact ⟨(RdU.mk (h1'.keep b2) h2 (b1.trans (b2.mono b1.size))).below b3, h3'⟩
end Go.Proofs.YtlhdjdnflpilbaaGreatDoor.Upd
namespace Go.Proofs.YtlhdjdnflpilbaaGreatDoor.Upd
open Go.RowKit Mem Segm Oct Att Seg PR
theorem numU (v : Value) (l : List Nat) (w : World) (hv : U8s w v l) (hl : l.length ≤ 4) : Calls Tryz.prog 50 #[v] w (fun e w' => e = .returned (.int .u32 (val l)) ∧ w' = w) := by
  obtain ⟨A, c, rfl, hlc, hc⟩ := hv.form
  have HU := Go.Lib.hid hv
  clear hv
  go_enter Tryz.func50, Tryz.ntmps50
  go_wp2
  go_loopw [3, 4] (fun v3 v4 wx => ∃ j : Nat, j ≤ l.length ∧ v4 = .int .i64 j ∧ v3 = .int .u32 (val (l.take j)) ∧ wx = w) (fun _ v4 _ => l.length - (intOf v4).toNat)
  case atStart => exact ⟨0, Nat.zero_le _, rfl, rfl, rfl⟩
  case round =>
    obtain ⟨j, hj, rfl, rfl, rfl⟩ := hrel
    by_cases hlt : j < l.length
    · obtain ⟨b, off, x, rfl, hbl, hx, hx2, hc⟩ := (HU.out).at_ hlt
      have z0 : (0 : Int) ≤ (j : Int) := by omega
      have z1 : (j : Int) < (l.length : Int) := by omega
      have hv := val_lt j HU.out.2
      have hv2 := Nat.lt_of_lt_of_le hv (pow_le (show j ≤ 3 by omega))
      have HV := Go.Lib.hid (val_take hx)
      clear hv hx
      generalize val (l.take j) = V at hv2 HV ⊢
      go_wp2
      go_roundw
      case rel => exact ⟨j + 1, hlt, by go_num, by rw [HV.out]; go_num, trivial⟩
      case measure => simp [intOf]; omega
    · obtain rfl : j = l.length := by omega
      go_wp2
      go_ret
      rw [List.take_length]
      exact ⟨rfl, rfl⟩
set_option maxRecDepth 100000 in
set_option maxHeartbeats 4000000 in
theorem rdec_short (v : Value) (b : List Nat) (w : World) (hv : U8s w v b) (hl : b.length < 2) : Calls Tryz.prog 17 #[v] w (DecU b w) := by
  have D0 := Go.Lib.hid (rdv_start w)
  have CN := Go.Lib.hid rno10_any
  obtain ⟨Ab, cb, rfl, hlc, hcc⟩ := hv.form
  have HD := Go.Lib.hid (show decU b = .inl ⟨3, (1 : Nat), []⟩ from if_pos hl)
  have z1 : (b.length : Int) < 2 := by omega
  clear hv hl hlc hcc
  go_enter Tryz.func17, Tryz.ntmps17
  go_wp2_with (first
    | (go_at_call 49; first | (refine (CN.out _ _ _ _ _).mono ?_; rintro e z ⟨rfl, hb⟩; have SZ := Go.Lib.hid (D0.out.rd.below hb); clear hb) | (trace "FELL no"; trace_state; fail_if_success skip))
    | (have h := SZ.out; refine wpList_store_row rfl 29 (.tmp 2) (.tmp 15) rfl w.heap.size #[.slice none 0 0, .int .i64 0, .int .i64 0, .slice none 0 0, .int .u32 0, .int .u32 0, .int .u32 0, .int .u32 0, .int .u32 0, .slice none 0 0, .slice none 0 0] rfl rfl _ _ h.ru.blk (by kernel_rfl) rfl (by simp [Value.oneCell']) ?_; clear h; have SM := Go.Lib.hid (SZ.out.mid #[.slice none 0 0, .int .i64 0, .int .i64 0, .slice none 0 0, .int .u32 0, .int .u32 0, .int .u32 0, .int .u32 0, .int .u32 0, .slice none 0 0, .slice none 0 0]))
    | (have h := SM.out; refine wpList_store_row rfl 41 (.tmp 3) (.tmp 16) rfl (w.heap.size + 1) #[.int .i64 3, .int .i64 1, .slice none 0 0] rfl rfl _ _ h (by kernel_rfl) rfl (by simp [Value.oneCell']) ?_; clear h; clear SM))
  (try simp only [Exit.inBlock, Exit.then])
  obtain ⟨⟨r0, r1, r2, r3, r4, r5, r6, r7, r8, r9, r10⟩, t0, t1, t2⟩ := SZ.out.finZ (.int .i64 3) (.int .i64 1) (.slice none 0 0)
  unfold endZ at r0 r1 r2 r3 r4 r5 r6 r7 r8 r9 r10 t0 t1 t2
  refine bodyPost_ret (v := .tuple #[.agg #[.slice none 0 0, .int .i64 0, .int .i64 0, .slice none 0 0, .int .u32 0, .int .u32 0, .int .u32 0, .int .u32 0, .int .u32 0, .slice none 0 0, .slice none 0 0], .agg #[.int .i64 3, .int .i64 1, .slice none 0 0]]) (by simp [results, Tryz.results17, go_sem, r0, r1, r2, r3, r4, r5, r6, r7, r8, r9, r10, t0, t1, t2]) rfl ?_
  exact SZ.out.bad0 (s := 1) HD.out rfl (by decide)
end Go.Proofs.YtlhdjdnflpilbaaGreatDoor.Upd
namespace Go.Proofs.YtlhdjdnflpilbaaGreatDoor.Upd
open Go.RowKit Mem Segm Oct Att Seg PR
def mid9 (W : World) (B : Nat) (a : At) (vp vc : Value) : World := (((((((((W.setCell ⟨B, 1, none⟩ (.int .i64 a.has)).setCell ⟨B, 2, none⟩ (.int .i64 a.origin)).setCell ⟨B, 3, none⟩ vp).setCell ⟨B, 4, none⟩ (.int .u32 a.hop)).setCell ⟨B, 5, none⟩ (.int .u32 a.med)).setCell ⟨B, 6, none⟩ (.int .u32 a.pref)).setCell ⟨B, 7, none⟩ (.int .u32 a.aas)).setCell ⟨B, 8, none⟩ (.int .u32 a.aid)).setCell ⟨B, 9, none⟩ vc)
section
variable {n B : Nat} {w W : World} {t : TypeId} {a : At} {vg vp vc vh yp yc : Value}
theorem mid9_off (W : World) (B : Nat) (a : At) (vp vc : Value) : Off B W (mid9 W B a vp vc) := ((((((((((Off.refl B W).set 1 (.int .i64 a.has)).set 2 (.int .i64 a.origin)).set 3 vp).set 4 (.int .u32 a.hop)).set 5 (.int .u32 a.med)).set 6 (.int .u32 a.pref)).set 7 (.int .u32 a.aas)).set 8 (.int .u32 a.aid)).set 9 vc)
theorem mid9_low (h : Below n w W) (hB : n ≤ B) (a : At) (vp vc : Value) : Below n w (mid9 W B a vp vc) := (((((((((h.setCell (p := ⟨B, 1, none⟩) hB (.int .i64 a.has)).setCell (p := ⟨B, 2, none⟩) hB (.int .i64 a.origin)).setCell (p := ⟨B, 3, none⟩) hB vp).setCell (p := ⟨B, 4, none⟩) hB (.int .u32 a.hop)).setCell (p := ⟨B, 5, none⟩) hB (.int .u32 a.med)).setCell (p := ⟨B, 6, none⟩) hB (.int .u32 a.pref)).setCell (p := ⟨B, 7, none⟩) hB (.int .u32 a.aas)).setCell (p := ⟨B, 8, none⟩) hB (.int .u32 a.aid)).setCell (p := ⟨B, 9, none⟩) hB vc)
theorem mid9_box (h : BoxU W B t zeroA vg yp yc vh) (a : At) (vp vc : Value) : BoxU (mid9 W B a vp vc) B t a vg vp vc vh :=
  ⟨(((((((((((⟨h.blk⟩ : Box11 W B t vg (.int .i64 0) (.int .i64 0) yp (.int .u32 0) (.int .u32 0) (.int .u32 0) (.int .u32 0) (.int .u32 0) yc vh).set1 (.int .i64 a.has)).set2 (.int .i64 a.origin)).set3 vp).set4 (.int .u32 a.hop)).set5 (.int .u32 a.med)).set6 (.int .u32 a.pref)).set7 (.int .u32 a.aas)).set8 (.int .u32 a.aid)).set9 vc)).blk⟩
end
structure S27 (w : World) (L : List Pf) (A : Option Addr) (c : Nat) (a : At) (vp vc vh : Value) (B : Nat) (W : World) : Prop where
  hB : w.heap.size + 3 ≤ B
  rd : RdU w W
  bu : BoxU W (w.heap.size + 1 + 1) 29 zeroA (.slice A L.length c) (.slice none 0 0) (.slice none 0 0) vh
  own : W.ownsRow (w.heap.size + 3) 63 2 (.slice A L.length c) L.length (pcells L)
  at_ : AtF (w.heap.size + 3) W (aV a vp vc) a
  b9 : Box9 W B 27 (.int .i64 a.has) (.int .i64 a.origin) vp (.int .u32 a.hop) (.int .u32 a.med) (.int .u32 a.pref) (.int .u32 a.aas) (.int .u32 a.aid) vc
theorem S27.below {w W W2 : World} {L : List Pf} {A : Option Addr} {c : Nat} {a : At} {vp vc vh : Value} {B : Nat} (h : S27 w L A c a vp vc vh B W) (hb : Below W.heap.size W W2) : S27 w L A c a vp vc vh B W2 :=
  ⟨h.hB, h.rd.below hb, h.bu.keep hb, own_keep h.own hb, atF_keep h.at_ hb, h.b9.keep hb⟩
theorem s27_of {w W : World} {L : List Pf} {A : Option Addr} {c : Nat} {a : At} {n : No} {vp vc vd : Value} {B : Nat} (h : S16 w L A c a n vp vc vd B W) (vh : Value) : S27 w L A c a vp vc vh B (W.setCell ⟨w.heap.size + 1 + 1, 10, none⟩ vh) := by
  have hB := h.hB
  have ho : ∀ k, k ≠ w.heap.size + 1 + 1 → (W.setCell ⟨w.heap.size + 1 + 1, 10, none⟩ vh).heap[k]? = W.heap[k]? := fun k hk => Go.RowKit.Below.heap_setCell _ _ _ _ hk
  exact ⟨hB, ⟨h.rv.rd.ru.far (by omega) _, h.rv.rd.r3.far (by omega) _, h.rv.rd.low.setCell (p := ⟨w.heap.size + 1 + 1, 10, none⟩) (by show w.heap.size ≤ w.heap.size + 1 + 1; omega) _⟩,
    ⟨((⟨h.rv.bu.blk⟩ : Box11 W (w.heap.size + 1 + 1) 29 (.slice A L.length c) (.int .i64 0) (.int .i64 0) (.slice none 0 0) (.int .u32 0) (.int .u32 0) (.int .u32 0) (.int .u32 0) (.int .u32 0) (.slice none 0 0) (.slice none 0 0)).set10 vh).blk⟩,
    own_off h.own (fun k hk => ho k (by omega)), h.at_.off (fun k hk => ho k (by omega)) (by simp), ⟨(ho B (by omega)).trans h.b9.blk⟩⟩
theorem S27.mid {w W : World} {L : List Pf} {A : Option Addr} {c : Nat} {a : At} {vp vc vh : Value} {B : Nat} (h : S27 w L A c a vp vc vh B W) :
    RdU w (mid9 W (w.heap.size + 1 + 1) a vp vc) ∧ BoxU (mid9 W (w.heap.size + 1 + 1) a vp vc) (w.heap.size + 1 + 1) 29 a (.slice A L.length c) vp vc vh ∧ (mid9 W (w.heap.size + 1 + 1) a vp vc).ownsRow (w.heap.size + 3) 63 2 (.slice A L.length c) L.length (pcells L) ∧ AtF (w.heap.size + 3) (mid9 W (w.heap.size + 1 + 1) a vp vc) (aV a vp vc) a := by
  have ho := mid9_off W (w.heap.size + 1 + 1) a vp vc
  exact ⟨⟨h.rd.ru.below (fun k hk => ho.1 k (by omega)), ⟨(ho.1 (w.heap.size + 1) (by omega)).trans h.rd.r3.blk⟩, mid9_low h.rd.low (by omega) a vp vc⟩, mid9_box h.bu a vp vc, own_off h.own (fun k hk => ho.1 k (by omega)), h.at_.off (fun k hk => ho.1 k (by omega)) ho.2⟩
theorem updR_of {n : Nat} {W : World} {L H : List Pf} {Ag Ah : Option Addr} {cg ch : Nat} {a : At} {vp vc : Value} (hg : W.ownsRow n 63 2 (.slice Ag L.length cg) L.length (pcells L)) (hok : Oks L) (ha : AtF n W (aV a vp vc) a) (hh : W.ownsRow n 63 2 (.slice Ah H.length ch) H.length (pcells H)) (hok2 : Oks H) :
    UpdF n W (uV a (.slice Ag L.length cg) vp vc (.slice Ah H.length ch)) ⟨L, a, H⟩ := by
  obtain ⟨h1, vp', vc', h2, h3, h4, h5⟩ := ha
  simp only [aV, acells, Value.agg.injEq, List.toArray_eq_iff, List.cons.injEq, and_true, true_and] at h2
  obtain ⟨rfl, rfl⟩ := h2
  exact ⟨Ag, cg, vp, vc, Ah, ch, rfl, hg, hok, ⟨h1, h3, h4, h5⟩, hh, hok2⟩
theorem well_first {h : Int} {j : Nat} (h1 : 1 ≤ j) (h3 : j ≤ 3) (ha : ∀ k : Nat, 1 ≤ k → k < j → hasB h (k : Int) = true) (hb : hasB h (j : Int) = false) : wellB h = false ∧ wellN h = ⟨3, 3, [j]⟩ := by
  obtain ⟨i, rfl⟩ : ∃ i, j = i + 1 := ⟨j - 1, by omega⟩
  have hn := well_step (h := h) (j := i) (by omega) (fun k k1 k2 => ha k k1 (by omega)) hb
  refine ⟨?_, hn⟩
  cases hw : wellB h with
  | false => rfl
  | true => rw [wellN_yes hw] at hn; cases hn
theorem well_last {h : Int} (ha : ∀ k : Nat, 1 ≤ k → k < 4 → hasB h (k : Int) = true) : wellB h = true := by
  unfold wellB
  rw [show hasB h 1 = true from ha 1 (by omega) (by omega), show hasB h 2 = true from ha 2 (by omega) (by omega), show hasB h 3 = true from ha 3 (by omega) (by omega)]
  rfl
end Go.Proofs.YtlhdjdnflpilbaaGreatDoor.Upd
namespace Go.Proofs.YtlhdjdnflpilbaaGreatDoor.Upd
open Go.RowKit Mem Segm Oct Att Seg PR
set_option maxRecDepth 100000 in
set_option maxHeartbeats 8000000 in
theorem rdec_long (v : Value) (b : List Nat) (w : World) (hv : U8s w v b) (hl : 2 ≤ b.length) (hl2 : b.length ≤ 1600) : Calls Tryz.prog 17 #[v] w (DecU b w) := by
  have D0 := Go.Lib.hid (rdv_start w)
  have CN := Go.Lib.hid rno10_any
  obtain ⟨A, cb, rfl, hlc, hcc⟩ := hv.form
  obtain ⟨blk, off, x0, rfl, hbl, hx0, hx0s, hc0⟩ := hv.at_ (k := 0) (by omega)
  have HU := Go.Lib.hid hv
  obtain ⟨n1, hn1⟩ : ∃ n1, n1 = val (b.take 2) := ⟨_, rfl⟩
  have h1s : n1 < 65536 := by rw [hn1]; exact val_lt 2 hv.2
  have wn1 : IntKind.i64.wrap (n1 : Int) = (n1 : Int) := IntWalk.i64_in _ (by omega)
  have CU := Go.Lib.hid (fun (W : World) (h : Below w.heap.size w W) => show Calls Tryz.prog 50 #[.slice (some ⟨blk, off, none⟩) 2 cb] W (fun e w' => e = .returned (.int .u32 n1) ∧ w' = W) from by rw [hn1]; exact numU _ _ W ((show U8s w (.slice (some ⟨blk, off, none⟩) 2 cb) (b.take 2) from by simpa using mid_any hv (i := 0) (m := 2) (by omega)).keep h) (Nat.le_trans (List.length_take_le _ _) (by decide)))
  have HD0 := Go.Lib.hid (show decU b = if b.length < 2 + n1 then .inl form1 else decU1 (dec val ((b.drop 2).take n1)) (b.drop (2 + n1)) from by rw [hn1]; exact if_neg (by omega))
  have z1 : decide ((b.length : Int) < 2) = false := decide_eq_false (by omega)
  have z2 : (2 : Int) ≤ (cb : Int) := by omega
  clear hv hx0 hn1 hc0
  by_cases g1 : b.length < 2 + n1
  · have HD := Go.Lib.hid (show decU b = .inl ⟨3, (1 : Nat), []⟩ from by rw [HD0.out, if_pos g1]; rfl)
    have z3 : (b.length : Int) < 2 + (n1 : Int) := by omega
    clear g1
    go_enter Tryz.func17, Tryz.ntmps17
    go_wp2_with (first
      | (go_at_call 50; (with_reducible refine (CU.out _ D0.out.rd.low).mono ?_); rintro e x ⟨rfl, rfl⟩)
      | (go_at_call 49; first | (refine (CN.out _ _ _ _ _).mono ?_; rintro e z ⟨rfl, hb⟩; have SZ := Go.Lib.hid (D0.out.rd.below hb); clear hb) | (trace "FELL no"; trace_state; fail_if_success skip))
      | (have h := SZ.out; refine wpList_store_row rfl 29 (.tmp 2) (.tmp 27) rfl w.heap.size #[.slice none 0 0, .int .i64 0, .int .i64 0, .slice none 0 0, .int .u32 0, .int .u32 0, .int .u32 0, .int .u32 0, .int .u32 0, .slice none 0 0, .slice none 0 0] rfl rfl _ _ h.ru.blk (by kernel_rfl) rfl (by simp [Value.oneCell']) ?_; clear h; have SM := Go.Lib.hid (SZ.out.mid #[.slice none 0 0, .int .i64 0, .int .i64 0, .slice none 0 0, .int .u32 0, .int .u32 0, .int .u32 0, .int .u32 0, .int .u32 0, .slice none 0 0, .slice none 0 0]))
      | (have h := SM.out; refine wpList_store_row rfl 41 (.tmp 3) (.tmp 28) rfl (w.heap.size + 1) #[.int .i64 3, .int .i64 1, .slice none 0 0] rfl rfl _ _ h (by kernel_rfl) rfl (by simp [Value.oneCell']) ?_; clear h; clear SM))
    (try simp only [Exit.inBlock, Exit.then])
    obtain ⟨⟨r0, r1, r2, r3, r4, r5, r6, r7, r8, r9, r10⟩, t0, t1, t2⟩ := SZ.out.finZ (.int .i64 3) (.int .i64 1) (.slice none 0 0)
    unfold endZ at r0 r1 r2 r3 r4 r5 r6 r7 r8 r9 r10 t0 t1 t2
    refine bodyPost_ret (v := .tuple #[.agg #[.slice none 0 0, .int .i64 0, .int .i64 0, .slice none 0 0, .int .u32 0, .int .u32 0, .int .u32 0, .int .u32 0, .int .u32 0, .slice none 0 0, .slice none 0 0], .agg #[.int .i64 3, .int .i64 1, .slice none 0 0]]) (by simp [results, Tryz.results17, go_sem, r0, r1, r2, r3, r4, r5, r6, r7, r8, r9, r10, t0, t1, t2]) rfl ?_
    exact SZ.out.bad0 (s := 1) HD.out rfl (by decide)
  have z3 : decide ((b.length : Int) < 2 + (n1 : Int)) = false := decide_eq_false (by omega)
  rw [if_neg g1] at HD0
  obtain ⟨G, hG⟩ : ∃ G, G = (b.drop 2).take n1 := ⟨_, rfl⟩
  have HGL := Go.Lib.hid (show G.length = n1 from by rw [hG, List.length_take, List.length_drop]; omega)
  rw [← hG] at HD0
  have HGE := Go.Lib.hid hG
  clear hG
  go_enter Tryz.func17, Tryz.ntmps17
  go_upto_region 7 with (go_at_call 50; (with_reducible refine (CU.out _ D0.out.rd.low).mono ?_); rintro e x ⟨rfl, rfl⟩)
  go_cut [5] (fun s5 wx => Hid (St7 w G s5 wx))
  case first =>
    have e3 : (((w.alloc (.cells #[.slice none 0 0, .int .i64 0, .int .i64 0, .slice none 0 0, .int .u32 0, .int .u32 0, .int .u32 0, .int .u32 0, .int .u32 0, .slice none 0 0, .slice none 0 0] 29)).alloc (.cells #[.int .i64 0, .int .i64 0, .slice none 0 0] 41)).alloc (.cells #[.slice none 0 0, .int .i64 0, .int .i64 0, .slice none 0 0, .int .u32 0, .int .u32 0, .int .u32 0, .int .u32 0, .int .u32 0, .slice none 0 0, .slice none 0 0] 29)).heap.size = w.heap.size + 3 := by simp
    have E3 := Go.Lib.hid e3
    clear e3
    by_cases hc : cb = 2
    · have hn0 : n1 = 0 := by omega
      subst hc
      have CD := Go.Lib.hid (fun (W : World) (h : Below w.heap.size w W) => (refDecode_any (.slice (some ⟨blk, off, none⟩) n1 0) G W ((show U8s w (.slice (some ⟨blk, off, none⟩) n1 0) G from by rw [HGE.out]; have h3 := (HU.out.cut (k := 2) hl).prefix_ (k := n1) (d := 0) (by rw [List.length_drop]; omega) (by omega) (by unfold maxLen; omega); simpa using h3).keep h) (by have := HGL.out; omega)).mono fun _ _ h => out7_of h)
      clear hn0
      go_wp2_with (go_at_call 51; first | ((with_reducible refine (CD.out _ D0.out.rd.low).mono ?_); rintro e x ⟨Ag, ng, cg, sg, rfl, ho, hb⟩; have SV := Go.Lib.hid (D0.out.below hb); have ST7 := Go.Lib.hid (show St7 w G (.bool sg) (x.setCell ⟨w.heap.size + 1 + 1, 0, none⟩ (.slice Ag ng cg)) from ⟨Ag, ng, cg, sg, rfl, (by rw [E3.out] at ho; exact ho.off (n := w.heap.size + 3) (Nat.le_refl _) (fun k hk => Go.RowKit.Below.heap_setCell _ _ _ _ (by show k ≠ w.heap.size + 1 + 1; omega))), SV.out.set _⟩); obtain ⟨c0, -⟩ := zcells SV.out.bu; have fr := SV.out.bu.free; clear ho hb CD E3) | (trace "FELL D"; trace_state; fail_if_success skip))
      go_meet
      exact ST7
    · have CD := Go.Lib.hid (fun (W : World) (h : Below w.heap.size w W) => (refDecode_any (.slice (some ⟨blk, off + 2, none⟩) n1 (cb - 2)) G W ((show U8s w (.slice (some ⟨blk, off + 2, none⟩) n1 (cb - 2)) G from by rw [HGE.out]; exact mid_any HU.out (by omega) (by omega)).keep h) (by have := HGL.out; omega)).mono fun _ _ h => out7_of h)
      go_wp2_with (go_at_call 51; first | ((with_reducible refine (CD.out _ D0.out.rd.low).mono ?_); rintro e x ⟨Ag, ng, cg, sg, rfl, ho, hb⟩; have SV := Go.Lib.hid (D0.out.below hb); have ST7 := Go.Lib.hid (show St7 w G (.bool sg) (x.setCell ⟨w.heap.size + 1 + 1, 0, none⟩ (.slice Ag ng cg)) from ⟨Ag, ng, cg, sg, rfl, (by rw [E3.out] at ho; exact ho.off (n := w.heap.size + 3) (Nat.le_refl _) (fun k hk => Go.RowKit.Below.heap_setCell _ _ _ _ (by show k ≠ w.heap.size + 1 + 1; omega))), SV.out.set _⟩); obtain ⟨c0, -⟩ := zcells SV.out.bu; have fr := SV.out.bu.free; clear ho hb CD E3) | (trace "FELL D"; trace_state; fail_if_success skip))
      go_meet
      exact ST7
  case rest =>
  have h7 := hcut.out
  obtain ⟨Ag, ng, cg, sg, rfl, HO, hST⟩ := h7
  have ST := Go.Lib.hid hST
  clear CU D0 hcut hST z1 z2 z3 wn1
  rcases HO with ⟨hd, rfl⟩ | ⟨L, A2, c2, hd, rfl, hv, hown, hok⟩
  · have HD := Go.Lib.hid (show decU b = .inl ⟨3, (1 : Nat), []⟩ from by rw [HD0.out, hd]; rfl)
    clear hd
    go_wp2_with (first
      | (go_at_call 49; first | (refine (CN.out _ _ _ _ _).mono ?_; rintro e z ⟨rfl, hb⟩; have SZ := Go.Lib.hid (ST.out.rd.below hb); clear hb) | (trace "FELL no"; trace_state; fail_if_success skip))
      | (have h := SZ.out; refine wpList_store_row rfl 29 (.tmp 2) (.tmp 41) rfl w.heap.size #[.slice none 0 0, .int .i64 0, .int .i64 0, .slice none 0 0, .int .u32 0, .int .u32 0, .int .u32 0, .int .u32 0, .int .u32 0, .slice none 0 0, .slice none 0 0] rfl rfl _ _ h.ru.blk (by kernel_rfl) rfl (by simp [Value.oneCell']) ?_; clear h; have SM := Go.Lib.hid (SZ.out.mid #[.slice none 0 0, .int .i64 0, .int .i64 0, .slice none 0 0, .int .u32 0, .int .u32 0, .int .u32 0, .int .u32 0, .int .u32 0, .slice none 0 0, .slice none 0 0]))
      | (have h := SM.out; refine wpList_store_row rfl 41 (.tmp 3) (.tmp 42) rfl (w.heap.size + 1) #[.int .i64 3, .int .i64 1, .slice none 0 0] rfl rfl _ _ h (by kernel_rfl) rfl (by simp [Value.oneCell']) ?_; clear h; clear SM))
    (try simp only [Exit.inBlock, Exit.then])
    obtain ⟨⟨r0, r1, r2, r3, r4, r5, r6, r7, r8, r9, r10⟩, t0, t1, t2⟩ := SZ.out.finZ (.int .i64 3) (.int .i64 1) (.slice none 0 0)
    unfold endZ at r0 r1 r2 r3 r4 r5 r6 r7 r8 r9 r10 t0 t1 t2
    refine bodyPost_ret (v := .tuple #[.agg #[.slice none 0 0, .int .i64 0, .int .i64 0, .slice none 0 0, .int .u32 0, .int .u32 0, .int .u32 0, .int .u32 0, .int .u32 0, .slice none 0 0, .slice none 0 0], .agg #[.int .i64 3, .int .i64 1, .slice none 0 0]]) (by simp [results, Tryz.results17, go_sem, r0, r1, r2, r3, r4, r5, r6, r7, r8, r9, r10, t0, t1, t2]) rfl ?_
    exact SZ.out.bad0 (s := 1) HD.out rfl (by decide)
  injection hv with hv1 hv2 hv3
  subst hv1 hv2 hv3
  have HL := Go.Lib.hid (And.intro hown hok)
  obtain ⟨n2, hn2⟩ : ∃ n2, n2 = 2 + n1 := ⟨_, rfl⟩
  obtain ⟨C, hC⟩ : ∃ C, C = b.drop n2 := ⟨_, rfl⟩
  have hCl : C.length = b.length - n2 := by rw [hC, List.length_drop]
  have HD1 := Go.Lib.hid (show decU b = decU1 (some L) C from by rw [HD0.out, hd, hC, hn2])
  obtain ⟨Ac, hAc⟩ : ∃ Ac, Ac = (if cb = n2 then some (⟨blk, off, none⟩ : Addr) else some ⟨blk, off + n2, none⟩) := ⟨_, rfl⟩
  have UC := Go.Lib.hid (show U8s w (.slice Ac C.length (cb - n2)) C from by
    have h3 := HU.out.cut (k := n2) (by omega)
    rw [hC, hAc, List.length_drop]
    by_cases hc : cb = n2
    · simpa [hc] using h3
    · have : n2 ≠ 0 := by omega
      simpa [hc, Addr.add, this] using h3)
  have z7 : IntKind.i64.wrap ((2 : Int) + (n1 : Int)) = (n2 : Int) := by rw [IntWalk.i64_in _ (by omega)]; omega
  have z8 : (n2 : Int) ≤ (b.length : Int) := by omega
  have z9 : (n2 : Int) ≤ (cb : Int) := by omega
  have HN2 := Go.Lib.hid hn2
  clear hd hown hok hC HD0 HGL HGE hn2
  go_upto_region 10 with fail
  go_cut [0] (fun s0 wx => s0 = .slice Ac C.length (cb - n2) ∧ wx = wc)
  case first =>
    by_cases hc : cb = n2
    · subst hc
      go_wp2
      go_meet
      exact ⟨by rw [hAc, if_pos trivial, show C.length = 0 from by omega, Nat.sub_self], rfl⟩
    · go_wp2
      go_meet
      exact ⟨by rw [hAc, if_neg hc, hCl], rfl⟩
  case rest =>
  obtain ⟨rfl, rfl⟩ := hcut
  obtain ⟨cc, hcc2⟩ : ∃ cc, cc = cb - n2 := ⟨_, rfl⟩
  rw [← hcc2] at UC ⊢
  have hcl2 : cc ≤ 9223372036854775807 := by omega
  have hcl3 : C.length ≤ 1600 := by omega
  have hcl4 : C.length ≤ cc := by omega
  have HC := Go.Lib.hid (And.intro hCl (And.intro hAc hcc2))
  clear z7 z8 z9 hlc hcc hAc hCl hcc2 HU h1s
  by_cases k1 : C.length < 2
  · have HD := Go.Lib.hid (show decU b = .inl ⟨3, (1 : Nat), []⟩ from by rw [HD1.out]; exact if_pos k1)
    have z1 : (C.length : Int) < 2 := by omega
    clear k1
    go_wp2_with (first
      | (go_at_call 49; first | (refine (CN.out _ _ _ _ _).mono ?_; rintro e z ⟨rfl, hb⟩; have SZ := Go.Lib.hid (ST.out.rd.below hb); clear hb) | (trace "FELL no"; trace_state; fail_if_success skip))
      | (have h := SZ.out; refine wpList_store_row rfl 29 (.tmp 2) (.tmp 51) rfl w.heap.size #[.slice none 0 0, .int .i64 0, .int .i64 0, .slice none 0 0, .int .u32 0, .int .u32 0, .int .u32 0, .int .u32 0, .int .u32 0, .slice none 0 0, .slice none 0 0] rfl rfl _ _ h.ru.blk (by kernel_rfl) rfl (by simp [Value.oneCell']) ?_; clear h; have SM := Go.Lib.hid (SZ.out.mid #[.slice none 0 0, .int .i64 0, .int .i64 0, .slice none 0 0, .int .u32 0, .int .u32 0, .int .u32 0, .int .u32 0, .int .u32 0, .slice none 0 0, .slice none 0 0]))
      | (have h := SM.out; refine wpList_store_row rfl 41 (.tmp 3) (.tmp 52) rfl (w.heap.size + 1) #[.int .i64 3, .int .i64 1, .slice none 0 0] rfl rfl _ _ h (by kernel_rfl) rfl (by simp [Value.oneCell']) ?_; clear h; clear SM))
    (try simp only [Exit.inBlock, Exit.then])
    obtain ⟨⟨r0, r1, r2, r3, r4, r5, r6, r7, r8, r9, r10⟩, t0, t1, t2⟩ := SZ.out.finZ (.int .i64 3) (.int .i64 1) (.slice none 0 0)
    unfold endZ at r0 r1 r2 r3 r4 r5 r6 r7 r8 r9 r10 t0 t1 t2
    refine bodyPost_ret (v := .tuple #[.agg #[.slice none 0 0, .int .i64 0, .int .i64 0, .slice none 0 0, .int .u32 0, .int .u32 0, .int .u32 0, .int .u32 0, .int .u32 0, .slice none 0 0, .slice none 0 0], .agg #[.int .i64 3, .int .i64 1, .slice none 0 0]]) (by simp [results, Tryz.results17, go_sem, r0, r1, r2, r3, r4, r5, r6, r7, r8, r9, r10, t0, t1, t2]) rfl ?_
    exact SZ.out.bad0 (s := 1) HD.out rfl (by decide)
  obtain ⟨bk, of, y0, rfl, hbk, hy0, hy0s, hcy⟩ := UC.out.at_ (k := 0) (by omega)
  obtain ⟨n3, hn3⟩ : ∃ n3, n3 = val (C.take 2) := ⟨_, rfl⟩
  have h3s : n3 < 65536 := by rw [hn3]; exact val_lt 2 UC.out.2
  have wn3 : IntKind.i64.wrap (n3 : Int) = (n3 : Int) := IntWalk.i64_in _ (by omega)
  have CU := Go.Lib.hid (fun (W : World) (h : Below w.heap.size w W) => show Calls Tryz.prog 50 #[.slice (some ⟨bk, of, none⟩) 2 cc] W (fun e w' => e = .returned (.int .u32 n3) ∧ w' = W) from by rw [hn3]; exact numU _ _ W ((show U8s w (.slice (some ⟨bk, of, none⟩) 2 cc) (C.take 2) from by simpa using mid_any UC.out (i := 0) (m := 2) (by omega)).keep h) (Nat.le_trans (List.length_take_le _ _) (by decide)))
  have HD2 := Go.Lib.hid (show decU b = if C.length < 2 + n3 then .inl form1 else decU2 L (decodeA ((C.drop 2).take n3)) (C.drop (2 + n3)) from by rw [HD1.out, hn3]; exact if_neg k1)
  have z1 : decide ((C.length : Int) < 2) = false := decide_eq_false (by omega)
  have z2 : (2 : Int) ≤ (cc : Int) := by omega
  clear hn3 hcy HD1 k1 hy0
  by_cases g3 : C.length < 2 + n3
  · have HD := Go.Lib.hid (show decU b = .inl ⟨3, (1 : Nat), []⟩ from by rw [HD2.out, if_pos g3]; rfl)
    have z3 : (C.length : Int) < 2 + (n3 : Int) := by omega
    clear g3
    go_wp2_with (first
      | (go_at_call 50; (with_reducible refine (CU.out _ ST.out.rd.low).mono ?_); rintro e wd ⟨rfl, rfl⟩)
      | (go_at_call 49; first | (refine (CN.out _ _ _ _ _).mono ?_; rintro e z ⟨rfl, hb⟩; have SZ := Go.Lib.hid (ST.out.rd.below hb); clear hb) | (trace "FELL no"; trace_state; fail_if_success skip))
      | (have h := SZ.out; refine wpList_store_row rfl 29 (.tmp 2) (.tmp 63) rfl w.heap.size #[.slice none 0 0, .int .i64 0, .int .i64 0, .slice none 0 0, .int .u32 0, .int .u32 0, .int .u32 0, .int .u32 0, .int .u32 0, .slice none 0 0, .slice none 0 0] rfl rfl _ _ h.ru.blk (by kernel_rfl) rfl (by simp [Value.oneCell']) ?_; clear h; have SM := Go.Lib.hid (SZ.out.mid #[.slice none 0 0, .int .i64 0, .int .i64 0, .slice none 0 0, .int .u32 0, .int .u32 0, .int .u32 0, .int .u32 0, .int .u32 0, .slice none 0 0, .slice none 0 0]))
      | (have h := SM.out; refine wpList_store_row rfl 41 (.tmp 3) (.tmp 64) rfl (w.heap.size + 1) #[.int .i64 3, .int .i64 1, .slice none 0 0] rfl rfl _ _ h (by kernel_rfl) rfl (by simp [Value.oneCell']) ?_; clear h; clear SM))
    (try simp only [Exit.inBlock, Exit.then])
    obtain ⟨⟨r0, r1, r2, r3, r4, r5, r6, r7, r8, r9, r10⟩, t0, t1, t2⟩ := SZ.out.finZ (.int .i64 3) (.int .i64 1) (.slice none 0 0)
    unfold endZ at r0 r1 r2 r3 r4 r5 r6 r7 r8 r9 r10 t0 t1 t2
    refine bodyPost_ret (v := .tuple #[.agg #[.slice none 0 0, .int .i64 0, .int .i64 0, .slice none 0 0, .int .u32 0, .int .u32 0, .int .u32 0, .int .u32 0, .int .u32 0, .slice none 0 0, .slice none 0 0], .agg #[.int .i64 3, .int .i64 1, .slice none 0 0]]) (by simp [results, Tryz.results17, go_sem, r0, r1, r2, r3, r4, r5, r6, r7, r8, r9, r10, t0, t1, t2]) rfl ?_
    exact SZ.out.bad0 (s := 1) HD.out rfl (by decide)
  have z3 : decide ((C.length : Int) < 2 + (n3 : Int)) = false := decide_eq_false (by omega)
  rw [if_neg g3] at HD2
  obtain ⟨R, hR⟩ : ∃ R, R = (C.drop 2).take n3 := ⟨_, rfl⟩
  have HRL := Go.Lib.hid (show R.length = n3 from by rw [hR, List.length_take, List.length_drop]; omega)
  rw [← hR] at HD2
  have HRE := Go.Lib.hid hR
  clear hR
  go_upto_region 16 with (go_at_call 50; (with_reducible refine (CU.out _ ST.out.rd.low).mono ?_); rintro e wd ⟨rfl, rfl⟩)
  obtain ⟨ho1, ho2⟩ := HL.out
  have e3 : w.heap.size + 3 ≤ wd.heap.size := by have := ST.out.bu.lt; omega
  have E3 := Go.Lib.hid e3
  have HO1 := Go.Lib.hid ho1
  have HO2 := Go.Lib.hid ho2
  clear e3 ho1 ho2 HL CU
  go_cut [7, 8] (fun s7 s8 wx => ∃ (B : Nat) (a : At) (n : No) (Ap : Option Addr) (np cp : Nat) (Ac : Option Addr) (nc c3 : Nat) (Ad : Option Addr) (nd cd : Nat), s7 = .pointer (some ⟨B, 0, none⟩) ∧ s8 = .pointer (some ⟨B + 1, 0, none⟩) ∧ Hid (a = (outA (decodeA R)).1 ∧ n = (outA (decodeA R)).2) ∧ Hid (S16 w L Ag cg a n (.slice Ap np cp) (.slice Ac nc c3) (.slice Ad nd cd) B wx))
  case first =>
    by_cases hc : cc = 2
    · have hn0 : n3 = 0 := by omega
      subst hc
      have CD := Go.Lib.hid (fun (W : World) (h : Below w.heap.size w W) => (decode_rg (.slice (some ⟨bk, of, none⟩) n3 0) R W ((show U8s w (.slice (some ⟨bk, of, none⟩) n3 0) R from by rw [HRE.out]; have h3 := (UC.out.cut (k := 2) (by omega)).prefix_ (k := n3) (d := 0) (by rw [List.length_drop]; omega) (by omega) (by unfold maxLen; omega); simpa using h3).keep h) (by have := HRL.out; omega)).mono fun _ _ h => dec16_of h)
      clear hn0
      go_wp2_with (first
        | (go_at_call 52; first | ((with_reducible refine (CD.out _ ST.out.rd.low).mono ?_); rintro e x ⟨a, n, Ap, np, cp, Ac, nc, c3, Ad, nd, cd, ha, hn, rfl, h1, h2, hb⟩; have S := Go.Lib.hid (s16_start (Nat.le_trans E3.out hb.size) (ST.out.below hb) (own_keep HO1.out hb) (atF_lower h1 E3.out) h2); have HE := Go.Lib.hid (And.intro ha hn); have K9 := Go.Lib.hid (new16_9 x); have K3 := Go.Lib.hid (new16_3 x #[.int .i64 a.has, .int .i64 a.origin, .slice Ap np cp, .int .u32 a.hop, .int .u32 a.med, .int .u32 a.pref, .int .u32 a.aas, .int .u32 a.aid, .slice Ac nc c3]); unfold new16 at S K9 K3; unfold aV; clear ha hn h1 h2 hb CD) | (trace "FELL D"; trace_state; fail_if_success skip))
        | (have h := K9.out; refine wpList_store_row rfl 27 (.tmp 7) (.tmp 71) rfl x.heap.size #[.int .i64 a.has, .int .i64 a.origin, .slice Ap np cp, .int .u32 a.hop, .int .u32 a.med, .int .u32 a.pref, .int .u32 a.aas, .int .u32 a.aid, .slice Ac nc c3] rfl rfl _ _ h (by kernel_rfl) rfl (by simp [Value.oneCell']) ?_; clear h; clear K9)
        | (have h := K3.out; refine wpList_store_row rfl 41 (.tmp 8) (.tmp 72) rfl (x.heap.size + 1) #[.int .i64 n.code, .int .i64 n.sub, .slice Ad nd cd] rfl rfl _ _ h (by kernel_rfl) rfl (by simp [Value.oneCell']) ?_; clear h; clear K3))
      go_meet
      exact ⟨_, _, _, _, _, _, _, _, _, _, _, _, rfl, rfl, HE, S⟩
    · have CD := Go.Lib.hid (fun (W : World) (h : Below w.heap.size w W) => (decode_rg (.slice (some ⟨bk, of + 2, none⟩) n3 (cc - 2)) R W ((show U8s w (.slice (some ⟨bk, of + 2, none⟩) n3 (cc - 2)) R from by rw [HRE.out]; exact mid_any UC.out (by omega) (by omega)).keep h) (by have := HRL.out; omega)).mono fun _ _ h => dec16_of h)
      go_wp2_with (first
        | (go_at_call 52; first | ((with_reducible refine (CD.out _ ST.out.rd.low).mono ?_); rintro e x ⟨a, n, Ap, np, cp, Ac, nc, c3, Ad, nd, cd, ha, hn, rfl, h1, h2, hb⟩; have S := Go.Lib.hid (s16_start (Nat.le_trans E3.out hb.size) (ST.out.below hb) (own_keep HO1.out hb) (atF_lower h1 E3.out) h2); have HE := Go.Lib.hid (And.intro ha hn); have K9 := Go.Lib.hid (new16_9 x); have K3 := Go.Lib.hid (new16_3 x #[.int .i64 a.has, .int .i64 a.origin, .slice Ap np cp, .int .u32 a.hop, .int .u32 a.med, .int .u32 a.pref, .int .u32 a.aas, .int .u32 a.aid, .slice Ac nc c3]); unfold new16 at S K9 K3; unfold aV; clear ha hn h1 h2 hb CD) | (trace "FELL D"; trace_state; fail_if_success skip))
        | (have h := K9.out; refine wpList_store_row rfl 27 (.tmp 7) (.tmp 71) rfl x.heap.size #[.int .i64 a.has, .int .i64 a.origin, .slice Ap np cp, .int .u32 a.hop, .int .u32 a.med, .int .u32 a.pref, .int .u32 a.aas, .int .u32 a.aid, .slice Ac nc c3] rfl rfl _ _ h (by kernel_rfl) rfl (by simp [Value.oneCell']) ?_; clear h; clear K9)
        | (have h := K3.out; refine wpList_store_row rfl 41 (.tmp 8) (.tmp 72) rfl (x.heap.size + 1) #[.int .i64 n.code, .int .i64 n.sub, .slice Ad nd cd] rfl rfl _ _ h (by kernel_rfl) rfl (by simp [Value.oneCell']) ?_; clear h; clear K3))
      go_meet
      exact ⟨_, _, _, _, _, _, _, _, _, _, _, _, rfl, rfl, HE, S⟩
  case rest =>
  obtain ⟨B, a, n, Ap, np, cp, Ac, nc, c3, Ad, nd, cd, rfl, rfl, HE, S⟩ := hcut
  clear HO1 ST E3 z1 z2 z3 wn3 HRL HRE
  obtain ⟨q0, q1, q2⟩ := S.out.b3.cells
  cases hr : decodeA R with
  | inl m =>
    obtain ⟨ha, hn⟩ := HE.out
    rw [hr] at ha hn
    replace hn : n = m := hn
    subst hn
    have hcode : n.code = 3 := decA_code _ _ _ _ _ hr
    have HD := Go.Lib.hid (show decU b = .inl n from by rw [HD2.out, hr]; rfl)
    have y1 : ((n.code : Int) != 0) = true := by rw [hcode]; rfl
    clear ha hr HE hcode
    have hwB : w.heap.size + 3 ≤ B := S.out.hB
    have p0 := (cell_setRow_other wc.drew w.heap.size #[.slice none 0 0, .int .i64 0, .int .i64 0, .slice none 0 0, .int .u32 0, .int .u32 0, .int .u32 0, .int .u32 0, .int .u32 0, .slice none 0 0, .slice none 0 0] ⟨B + 1, 0, none⟩ (by show B + 1 ≠ w.heap.size; omega)).trans q0
    have p1 := (cell_setRow_other wc.drew w.heap.size #[.slice none 0 0, .int .i64 0, .int .i64 0, .slice none 0 0, .int .u32 0, .int .u32 0, .int .u32 0, .int .u32 0, .int .u32 0, .slice none 0 0, .slice none 0 0] ⟨B + 1, 1, none⟩ (by show B + 1 ≠ w.heap.size; omega)).trans q1
    have p2 := (cell_setRow_other wc.drew w.heap.size #[.slice none 0 0, .int .i64 0, .int .i64 0, .slice none 0 0, .int .u32 0, .int .u32 0, .int .u32 0, .int .u32 0, .int .u32 0, .slice none 0 0, .slice none 0 0] ⟨B + 1, 2, none⟩ (by show B + 1 ≠ w.heap.size; omega)).trans q2
    have KU := Go.Lib.hid (show wc.drew.heap[w.heap.size]? = some (.cells #[.slice none 0 0, .int .i64 0, .int .i64 0, .slice none 0 0, .int .u32 0, .int .u32 0, .int .u32 0, .int .u32 0, .int .u32 0, .slice none 0 0, .slice none 0 0] 29 (0, 0)) from S.out.rv.rd.ru.blk)
    have KN := Go.Lib.hid (show (wc.drew.setRow w.heap.size #[.slice none 0 0, .int .i64 0, .int .i64 0, .slice none 0 0, .int .u32 0, .int .u32 0, .int .u32 0, .int .u32 0, .int .u32 0, .slice none 0 0, .slice none 0 0]).heap[w.heap.size + 1]? = some (.cells #[.int .i64 0, .int .i64 0, .slice none 0 0] 41 (0, 0)) from (setRow_other wc.drew w.heap.size (w.heap.size + 1) _ (by omega)).trans S.out.rv.rd.r3.blk)
    go_upto_region 18 with fail
    go_cut [] (fun wx => wx = endZ w wc.drew (.int .i64 n.code) (.int .i64 n.sub) (.slice Ad nd cd))
    case first =>
      refine wp_region_any (by kernel_rfl) ?_
      change wpAny _ _ _ _ _ _ _ (World.drew _)
      refine wpAny_take (i := 0) (v := .agg #[.slice none 0 0, .int .i64 0, .int .i64 0, .slice none 0 0, .int .u32 0, .int .u32 0, .int .u32 0, .int .u32 0, .int .u32 0, .slice none 0 0, .slice none 0 0]) rfl (by kernel_rfl) (by kernel_rfl) (by kernel_rfl) (fun _ _ _ h => h) (Or.inl ⟨by rfl, by intro w; go_simp; try with_reducible rfl⟩) ?_
      refine wpAny_ready (rs := [1, 2]) (by kernel_rfl) (by simp) ?_
      refine AllReady.cons (o := ⟨some 77, .load 41 (.tmp 8), 41, "ref.go:58", #[⟨2, .gcOnly .lateStores⟩], none⟩) rfl (fun K hK => ?_) (AllReady.cons rfl (fun K hK => ?_) AllReady.nil)
      · go_simp
        refine hK _ _ ?_
        clear hK K
        refine wpAny_ready (rs := [2]) (by kernel_rfl) (by simp) ?_
        refine AllReady.cons rfl (fun K hK => ?_) AllReady.nil
        rw [if_pos (by rfl)]
        refine wp_store_row 29 (.tmp 2) (.tmp 76) rfl w.heap.size #[.slice none 0 0, .int .i64 0, .int .i64 0, .slice none 0 0, .int .u32 0, .int .u32 0, .int .u32 0, .int .u32 0, .int .u32 0, .slice none 0 0, .slice none 0 0] rfl rfl _ _ KU.out (by kernel_rfl) rfl (by simp [Value.oneCell']) ?_
        refine hK _ _ ?_
        clear hK K
        refine wpAny_ready (rs := [3]) (by kernel_rfl) (by simp) ?_
        refine AllReady.cons rfl (fun K hK => ?_) AllReady.nil
        rw [if_pos (by rfl)]
        refine wp_store_row 41 (.tmp 3) (.tmp 77) rfl (w.heap.size + 1) #[.int .i64 n.code, .int .i64 n.sub, .slice Ad nd cd] rfl rfl _ _ KN.out (by kernel_rfl) rfl (by simp [Value.oneCell']) ?_
        refine hK _ _ ?_
        clear hK K
        refine wpAny_done (by kernel_rfl) ?_ _
        go_wp2_with fail
        go_meet
        rfl
      · rw [if_pos (by rfl)]
        refine wp_store_row 29 (.tmp 2) (.tmp 76) rfl w.heap.size #[.slice none 0 0, .int .i64 0, .int .i64 0, .slice none 0 0, .int .u32 0, .int .u32 0, .int .u32 0, .int .u32 0, .int .u32 0, .slice none 0 0, .slice none 0 0] rfl rfl _ _ KU.out (by kernel_rfl) rfl (by simp [Value.oneCell']) ?_
        refine hK _ _ ?_
        clear hK K
        refine wpAny_ready (rs := [1]) (by kernel_rfl) (by simp) ?_
        refine AllReady.cons (o := ⟨some 77, .load 41 (.tmp 8), 41, "ref.go:58", #[⟨2, .gcOnly .lateStores⟩], none⟩) rfl (fun K hK => ?_) AllReady.nil
        go_simp
        refine hK _ _ ?_
        clear hK K
        refine wpAny_ready (rs := [3]) (by kernel_rfl) (by simp) ?_
        refine AllReady.cons rfl (fun K hK => ?_) AllReady.nil
        rw [if_pos (by rfl)]
        refine wp_store_row 41 (.tmp 3) (.tmp 77) rfl (w.heap.size + 1) #[.int .i64 n.code, .int .i64 n.sub, .slice Ad nd cd] rfl rfl _ _ KN.out (by kernel_rfl) rfl (by simp [Value.oneCell']) ?_
        refine hK _ _ ?_
        clear hK K
        refine wpAny_done (by kernel_rfl) ?_ _
        go_wp2_with fail
        go_meet
        rfl
    case rest =>
    subst hcut
    have RD := Go.Lib.hid (S.out.rv.rd.below (Below.refl _ wc).drew)
    have NO := Go.Lib.hid (S.out.no.keep (Below.refl _ wc).drew)
    obtain ⟨⟨r0, r1, r2, r3, r4, r5, r6, r7, r8, r9, r10⟩, t0, t1, t2⟩ := RD.out.finZ (.int .i64 n.code) (.int .i64 n.sub) (.slice Ad nd cd)
    clear KU KN p0 p1 p2 q0 q1 q2 S y1
    have HEV := Go.Lib.hid (RD.out.badN HD.out NO.out)
    generalize endZ w wc.drew (.int .i64 n.code) (.int .i64 n.sub) (.slice Ad nd cd) = WE at r0 r1 r2 r3 r4 r5 r6 r7 r8 r9 r10 t0 t1 t2 HEV ⊢
    go_wp2_with fail
    (try simp only [Exit.inBlock, Exit.then])
    refine bodyPost_ret (v := .tuple #[.agg #[.slice none 0 0, .int .i64 0, .int .i64 0, .slice none 0 0, .int .u32 0, .int .u32 0, .int .u32 0, .int .u32 0, .int .u32 0, .slice none 0 0, .slice none 0 0], .agg #[.int .i64 n.code, .int .i64 n.sub, .slice Ad nd cd]]) (by simp [results, Tryz.results17, go_sem, r0, r1, r2, r3, r4, r5, r6, r7, r8, r9, r10, t0, t1, t2]) rfl ?_
    exact HEV.out
  | inr m =>
  obtain ⟨ha, hn⟩ := HE.out
  rw [hr] at ha hn
  replace hn : n = ⟨0, 0, []⟩ := hn
  replace ha : a = m := ha
  subst ha hn
  obtain ⟨n4, hn4⟩ : ∃ n4, n4 = 2 + n3 := ⟨_, rfl⟩
  obtain ⟨D, hD⟩ : ∃ D, D = C.drop n4 := ⟨_, rfl⟩
  have hDl : D.length = C.length - n4 := by rw [hD, List.length_drop]
  have HD3 := Go.Lib.hid (show decU b = decU3 L a D from by rw [HD2.out, hr, hD, hn4]; rfl)
  obtain ⟨Ae, hAe⟩ : ∃ Ae, Ae = (if cc = n4 then some (⟨bk, of, none⟩ : Addr) else some ⟨bk, of + n4, none⟩) := ⟨_, rfl⟩
  have UD := Go.Lib.hid (show U8s w (.slice Ae D.length (cc - n4)) D from by
    have h3 := UC.out.cut (k := n4) (by omega)
    rw [hD, hAe, List.length_drop]
    by_cases hc : cc = n4
    · simpa [hc] using h3
    · have : n4 ≠ 0 := by omega
      simpa [hc, Addr.add, this] using h3)
  have z7 : IntKind.i64.wrap ((2 : Int) + (n3 : Int)) = (n4 : Int) := by rw [IntWalk.i64_in _ (by omega)]; omega
  have z8 : (n4 : Int) ≤ (C.length : Int) := by omega
  have z9 : (n4 : Int) ≤ (cc : Int) := by omega
  have HN4 := Go.Lib.hid hn4
  replace q0 : wc.cell? ⟨B + 1, 0, none⟩ = some (.int .i64 0) := q0
  clear hr HE HD2 q1 q2 hD hn4
  go_upto_region 19 with fail
  clear q0
  go_cut [0] (fun s0 wx => s0 = .slice Ae D.length (cc - n4) ∧ wx = wc)
  case first =>
    by_cases hc : cc = n4
    · subst hc
      go_wp2
      go_meet
      exact ⟨by rw [hAe, if_pos trivial, show D.length = 0 from by omega, Nat.sub_self], rfl⟩
    · go_wp2
      go_meet
      exact ⟨by rw [hAe, if_neg hc, hDl], rfl⟩
  case rest =>
  obtain ⟨rfl, rfl⟩ := hcut
  clear z7 z8 z9 hAe UC
  by_cases k2 : D.length = 0
  · have y2 : ((D.length : Int) == 0) = true := by rw [k2]; rfl
    have HD := Go.Lib.hid (show decU b = .inr ⟨L, zeroA, []⟩ from by rw [HD3.out]; exact if_pos (List.eq_nil_of_length_eq_zero k2))
    obtain ⟨f0, f1, f2, f3, f4, f5, f6, f7, f8, f9, f10⟩ := zcells S.out.rv.bu
    have HEV := Go.Lib.hid (S.out.rv.ok0 S.out.own HO2.out HD.out)
    have KU := Go.Lib.hid S.out.rv.rd.ru.blk
    have KN := Go.Lib.hid (S.out.rv.rd.mid #[.slice Ag L.length cg, .int .i64 0, .int .i64 0, .slice none 0 0, .int .u32 0, .int .u32 0, .int .u32 0, .int .u32 0, .int .u32 0, .slice none 0 0, .slice none 0 0])
    clear k2
    go_wp2_with (first
      | (have h := KU.out; refine wpList_store_row rfl 29 (.tmp 2) (.tmp 85) rfl w.heap.size #[.slice Ag L.length cg, .int .i64 0, .int .i64 0, .slice none 0 0, .int .u32 0, .int .u32 0, .int .u32 0, .int .u32 0, .int .u32 0, .slice none 0 0, .slice none 0 0] rfl rfl _ _ h (by kernel_rfl) rfl (by simp [Value.oneCell']) ?_; clear h; clear KU f0 f1 f2 f3 f4 f5 f6 f7 f8 f9 f10)
      | (have h := KN.out; refine wpList_store_row rfl 41 (.tmp 3) (.tmp 86) rfl (w.heap.size + 1) #[.int .i64 0, .int .i64 0, .slice none 0 0] rfl rfl _ _ h (by kernel_rfl) rfl (by simp [Value.oneCell']) ?_; clear h; clear KN))
    (try simp only [Exit.inBlock, Exit.then])
    obtain ⟨k1, k2, -⟩ := S.out.rv.rd.fin zeroA (.slice Ag L.length cg) (.slice none 0 0) (.slice none 0 0) (.slice none 0 0) (.int .i64 0) (.int .i64 0) (.slice none 0 0)
    obtain ⟨r0, r1, r2, r3, r4, r5, r6, r7, r8, r9, r10⟩ := zcells k1
    obtain ⟨t0, t1, t2⟩ := k2.cells
    clear k1 k2
    change bodyPost _ _ _ _ _ (endU w wc zeroA (.slice Ag L.length cg) (.slice none 0 0) (.slice none 0 0) (.slice none 0 0) (.int .i64 0) (.int .i64 0) (.slice none 0 0))
    generalize endU w wc zeroA (.slice Ag L.length cg) (.slice none 0 0) (.slice none 0 0) (.slice none 0 0) (.int .i64 0) (.int .i64 0) (.slice none 0 0) = WE at r0 r1 r2 r3 r4 r5 r6 r7 r8 r9 r10 t0 t1 t2 HEV ⊢
    refine bodyPost_ret (v := .tuple #[.agg #[.slice Ag L.length cg, .int .i64 0, .int .i64 0, .slice none 0 0, .int .u32 0, .int .u32 0, .int .u32 0, .int .u32 0, .int .u32 0, .slice none 0 0, .slice none 0 0], .agg #[.int .i64 0, .int .i64 0, .slice none 0 0]]) (by simp [results, Tryz.results17, go_sem, r0, r1, r2, r3, r4, r5, r6, r7, r8, r9, r10, t0, t1, t2]) rfl ?_
    exact HEV.out
  have y2 : ((D.length : Int) == 0) = false := by rw [beq_eq_false_iff_ne]; omega
  have hd16 : D.length ≤ 1600 := by omega
  clear hDl
  go_wp2_with fail
  go_loopw [9] (fun v9 wx => ∃ j : Nat, v9 = .int .i64 j ∧ Hid (1 ≤ j ∧ j ≤ 4 ∧ ∀ k : Nat, 1 ≤ k → k < j → hasB a.has k = true) ∧ Hid (S16 w L Ag cg a ⟨0, 0, []⟩ (.slice Ap np cp) (.slice Ac nc c3) (.slice Ad nd cd) B wx)) (fun v9 _ => 4 - (intOf v9).toNat)
  case atStart => exact ⟨1, rfl, Go.Lib.hid ⟨Nat.le_refl _, by decide, fun k h1 h2 => by omega⟩, S⟩
  case round =>
    clear S y2
    obtain ⟨j, rfl, HI, S⟩ := hrel
    have hj1 := HI.out.1
    have hj4 := HI.out.2.1
    obtain ⟨d0, d1, d2, d3, d4, d5, d6, d7, d8⟩ := S.out.b9.cells
    by_cases hlt : j ≤ 3
    · have z1 : (j : Int) ≤ 3 := by omega
      cases hh : hasB a.has (j : Int) with
      | true =>
        have CH := Go.Lib.hid (fun W : World => show Calls Tryz.prog 32 #[.agg #[.int .i64 a.has, .int .i64 a.origin, .slice Ap np cp, .int .u32 a.hop, .int .u32 a.med, .int .u32 a.pref, .int .u32 a.aas, .int .u32 a.aid, .slice Ac nc c3], .int .i64 j] W (Tells (.bool true) W) from by rw [← hh]; exact refHas8 _ _ _ _ _ _ _ _ _ _ W)
        have HH := Go.Lib.hid hh
        clear hh
        go_wp2_with (go_at_call 32; refine (CH.out _).mono ?_; rintro e x ⟨rfl, hb⟩; have S3 := Go.Lib.hid (S.out.below hb); clear hb)
        go_roundw
        case rel => exact ⟨j + 1, by go_num, Go.Lib.hid ⟨by omega, by omega, fun k h1 h2 => if h : k = j then by rw [h]; exact HH.out else HI.out.2.2 k h1 (by omega)⟩, S3⟩
        case measure => simp [intOf]; omega
      | false =>
        have HW := Go.Lib.hid (well_first hj1 hlt HI.out.2.2 hh)
        have HD := Go.Lib.hid (show decU b = .inl ⟨3, 3, [j]⟩ from by rw [HD3.out]; unfold decU3; rw [if_neg (fun e => k2 (by rw [e]; rfl)), if_pos HW.out.1, HW.out.2])
        have w8 : IntKind.u8.wrap (j : Int) = (j : Int) := by rw [IntKind.wrap_u8]; omega
        have HJ := Go.Lib.hid (show Small [j] from fun x hx => by simp only [List.mem_singleton] at hx; subst hx; omega)
        have CH := Go.Lib.hid (fun W : World => show Calls Tryz.prog 32 #[.agg #[.int .i64 a.has, .int .i64 a.origin, .slice Ap np cp, .int .u32 a.hop, .int .u32 a.med, .int .u32 a.pref, .int .u32 a.aas, .int .u32 a.aid, .slice Ac nc c3], .int .i64 j] W (Tells (.bool false) W) from by rw [← hh]; exact refHas8 _ _ _ _ _ _ _ _ _ _ W)
        clear hh hj1 hj4 hlt HI HW
        go_wp2_with (first
          | (go_at_call 32; refine (CH.out _).mono ?_; rintro e x ⟨rfl, hb⟩; have S3 := Go.Lib.hid (S.out.below hb); clear hb)
          | (go_at_call 49; first | (refine (CN.out _ _ _ _ _).mono ?_; rintro e z ⟨rfl, hb⟩; have hba : Below x.heap.size x (x.alloc (.cells #[.int .u8 j] 5)) := (Below.refl _ _).alloc (Nat.le_refl _) _; have SZ := Go.Lib.hid ((S3.out.below hba).below hb).rv.rd; have NZ := Go.Lib.hid ((show Note (x.alloc (.cells #[.int .u8 j] 5)) (.agg #[.int .i64 3, .int .i64 3, .slice (some ⟨x.heap.size, 0, none⟩) 1 1]) ⟨3, 3, [j]⟩ from ⟨(show (Lit.int .i64 3).wf = true by decide), (show (Lit.int .i64 3).wf = true by decide), _, rfl, lit8 x [j] #[.int .u8 j] 1 HJ.out rfl rfl (by decide)⟩).keep hb); clear hb hba) | (trace "FELL no"; trace_state; fail_if_success skip))
          | (have h := SZ.out; refine wpList_store_row rfl 29 (.tmp 2) (.tmp 99) rfl w.heap.size #[.slice none 0 0, .int .i64 0, .int .i64 0, .slice none 0 0, .int .u32 0, .int .u32 0, .int .u32 0, .int .u32 0, .int .u32 0, .slice none 0 0, .slice none 0 0] rfl rfl _ _ h.ru.blk (by kernel_rfl) rfl (by simp [Value.oneCell']) ?_; clear h; have SM := Go.Lib.hid (SZ.out.mid #[.slice none 0 0, .int .i64 0, .int .i64 0, .slice none 0 0, .int .u32 0, .int .u32 0, .int .u32 0, .int .u32 0, .int .u32 0, .slice none 0 0, .slice none 0 0]))
          | (have h := SM.out; refine wpList_store_row rfl 41 (.tmp 3) (.tmp 100) rfl (w.heap.size + 1) #[.int .i64 3, .int .i64 3, .slice (some ⟨x.heap.size, 0, none⟩) 1 1] rfl rfl _ _ h (by kernel_rfl) rfl (by simp [Value.oneCell']) ?_; clear h; clear SM))
        (try simp only [Exit.inBlock, Exit.then])
        obtain ⟨⟨r0, r1, r2, r3, r4, r5, r6, r7, r8, r9, r10⟩, t0, t1, t2⟩ := SZ.out.finZ (.int .i64 3) (.int .i64 3) (.slice (some ⟨x.heap.size, 0, none⟩) 1 1)
        unfold endZ at r0 r1 r2 r3 r4 r5 r6 r7 r8 r9 r10 t0 t1 t2
        refine bodyPost_ret (v := .tuple #[.agg #[.slice none 0 0, .int .i64 0, .int .i64 0, .slice none 0 0, .int .u32 0, .int .u32 0, .int .u32 0, .int .u32 0, .int .u32 0, .slice none 0 0, .slice none 0 0], .agg #[.int .i64 3, .int .i64 3, .slice (some ⟨x.heap.size, 0, none⟩) 1 1]]) (by simp [results, Tryz.results17, go_sem, r0, r1, r2, r3, r4, r5, r6, r7, r8, r9, r10, t0, t1, t2]) rfl ?_
        exact SZ.out.badN (n := ⟨3, 3, [j]⟩) HD.out NZ.out
    · obtain rfl : j = 4 := by omega
      have z1 : decide (((4 : Nat) : Int) ≤ 3) = false := by decide
      have HWL := Go.Lib.hid (well_last HI.out.2.2)
      have HD4 := Go.Lib.hid (show decU b = (match dec val D with | none => .inl ⟨3, 10, []⟩ | some h => .inr ⟨L, a, h⟩) from by rw [HD3.out]; unfold decU3; rw [if_neg (fun e => k2 (by rw [e]; rfl)), if_neg (by rw [HWL.out]; decide)]; cases dec val D <;> rfl)
      have CD := Go.Lib.hid (fun W (h : Below w.heap.size w W) => (refDecode_any _ D W (UD.out.keep h) (by omega)).mono fun _ _ h => out7_of h)
      have hsz := (And.intro S.out.hB S.out.b9.lt)
      have HSZ := Go.Lib.hid (show w.heap.size + 3 ≤ wr.heap.size from by omega)
      clear HD3 HI HWL hj1 hj4 hlt d0 d1 d2 d3 d4 d5 d6 d7 d8 hsz k2
      go_upto_region 28 with (go_at_call 51; first | ((with_reducible refine (CD.out _ S.out.rv.rd.low).mono ?_); rintro e x ⟨Ah, nh, ch, sh, rfl, ho, hb⟩; have SV := Go.Lib.hid (S.out.below hb); have S7 := Go.Lib.hid (s27_of SV.out (.slice Ah nh ch)); have OH := Go.Lib.hid (ho.off (W2 := x.setCell ⟨w.heap.size + 1 + 1, 10, none⟩ (.slice Ah nh ch)) (n := w.heap.size + 3) HSZ.out (fun k hk => Go.RowKit.Below.heap_setCell _ _ _ _ (by show k ≠ w.heap.size + 1 + 1; omega))); obtain ⟨-, -, -, -, -, -, -, -, -, -, c10⟩ := zcells SV.out.rv.bu; have fr := SV.out.rv.bu.free; clear ho hb CD S SV) | (trace "FELL D"; trace_state; fail_if_success skip))
      clear c10 fr
      rcases OH.out with ⟨hd, rfl⟩ | ⟨H, Ah2, ch2, hd, rfl, hvh, hown, hokh⟩
      · have HD := Go.Lib.hid (show decU b = .inl ⟨3, (10 : Nat), []⟩ from by rw [HD4.out, hd]; rfl)
        clear hd OH
        go_wp2_with (first
          | (go_at_call 49; first | (refine (CN.out _ _ _ _ _).mono ?_; rintro e z ⟨rfl, hb⟩; have SZ := Go.Lib.hid (S7.out.rd.below hb); clear hb) | (trace "FELL no"; trace_state; fail_if_success skip))
          | (have h := SZ.out; refine wpList_store_row rfl 29 (.tmp 2) (.tmp 110) rfl w.heap.size #[.slice none 0 0, .int .i64 0, .int .i64 0, .slice none 0 0, .int .u32 0, .int .u32 0, .int .u32 0, .int .u32 0, .int .u32 0, .slice none 0 0, .slice none 0 0] rfl rfl _ _ h.ru.blk (by kernel_rfl) rfl (by simp [Value.oneCell']) ?_; clear h; have SM := Go.Lib.hid (SZ.out.mid #[.slice none 0 0, .int .i64 0, .int .i64 0, .slice none 0 0, .int .u32 0, .int .u32 0, .int .u32 0, .int .u32 0, .int .u32 0, .slice none 0 0, .slice none 0 0]))
          | (have h := SM.out; refine wpList_store_row rfl 41 (.tmp 3) (.tmp 111) rfl (w.heap.size + 1) #[.int .i64 3, .int .i64 10, .slice none 0 0] rfl rfl _ _ h (by kernel_rfl) rfl (by simp [Value.oneCell']) ?_; clear h; clear SM))
        (try simp only [Exit.inBlock, Exit.then])
        obtain ⟨⟨r0, r1, r2, r3, r4, r5, r6, r7, r8, r9, r10⟩, t0, t1, t2⟩ := SZ.out.finZ (.int .i64 3) (.int .i64 10) (.slice none 0 0)
        unfold endZ at r0 r1 r2 r3 r4 r5 r6 r7 r8 r9 r10 t0 t1 t2
        refine bodyPost_ret (v := .tuple #[.agg #[.slice none 0 0, .int .i64 0, .int .i64 0, .slice none 0 0, .int .u32 0, .int .u32 0, .int .u32 0, .int .u32 0, .int .u32 0, .slice none 0 0, .slice none 0 0], .agg #[.int .i64 3, .int .i64 10, .slice none 0 0]]) (by simp [results, Tryz.results17, go_sem, r0, r1, r2, r3, r4, r5, r6, r7, r8, r9, r10, t0, t1, t2]) rfl ?_
        exact SZ.out.bad0 (s := 10) HD.out rfl (by decide)
      injection hvh with hv1 hv2 hv3
      subst hv1 hv2 hv3
      have HD := Go.Lib.hid (show decU b = .inr ⟨L, a, H⟩ from by rw [HD4.out, hd])
      have HH := Go.Lib.hid (And.intro (own_base hown HSZ.out) hokh)
      clear hd OH hown hokh HD4 HSZ
      go_upto_region 30 with fail
      obtain ⟨d0, d1, d2, d3, d4, d5, d6, d7, d8⟩ := S7.out.b9.cells
      obtain ⟨e0, e1, e2, e3, e4, e5, e6, e7, e8, e9, e10⟩ := zcells S7.out.bu
      have fr := S7.out.bu.free
      go_cut [] (fun wx => wx = mid9 (x.setCell ⟨w.heap.size + 1 + 1, 10, none⟩ (.slice Ah H.length ch)) (w.heap.size + 1 + 1) a (.slice Ap np cp) (.slice Ac nc c3))
      case first =>
        go_wp2
        go_meet
        rfl
      case rest =>
      subst hcut
      clear d0 d1 d2 d3 d4 d5 d6 d7 d8 e0 e1 e2 e3 e4 e5 e6 e7 e8 e9 e10 fr
      have hoff := mid9_off (x.setCell ⟨w.heap.size + 1 + 1, 10, none⟩ (.slice Ah H.length ch)) (w.heap.size + 1 + 1) a (.slice Ap np cp) (.slice Ac nc c3)
      obtain ⟨m1, m2, m3, m4⟩ := S7.out.mid
      have RD := Go.Lib.hid m1
      have HU := Go.Lib.hid (updR_of m3 HO2.out m4 (own_off HH.out.1 (fun k hk => hoff.1 k (by omega))) HH.out.2)
      obtain ⟨f0, f1, f2, f3, f4, f5, f6, f7, f8, f9, f10⟩ := m2.cells
      clear m1 m2 m3 m4 hoff S7 HH
      generalize mid9 (x.setCell ⟨w.heap.size + 1 + 1, 10, none⟩ (.slice Ah H.length ch)) (w.heap.size + 1 + 1) a (.slice Ap np cp) (.slice Ac nc c3) = WM at RD HU f0 f1 f2 f3 f4 f5 f6 f7 f8 f9 f10 ⊢
      have HEV := Go.Lib.hid (RD.out.okN (b := b) (u := ⟨L, a, H⟩) (base := w.heap.size + 3) (by omega) HU.out (note_zero _) HD.out)
      have KU := Go.Lib.hid RD.out.ru.blk
      have KN := Go.Lib.hid (RD.out.mid #[.slice Ag L.length cg, .int .i64 a.has, .int .i64 a.origin, .slice Ap np cp, .int .u32 a.hop, .int .u32 a.med, .int .u32 a.pref, .int .u32 a.aas, .int .u32 a.aid, .slice Ac nc c3, .slice Ah H.length ch])
      obtain ⟨k1, k3, -⟩ := RD.out.fin a (.slice Ag L.length cg) (.slice Ap np cp) (.slice Ac nc c3) (.slice Ah H.length ch) (.int .i64 0) (.int .i64 0) (.slice none 0 0)
      obtain ⟨r0, r1, r2, r3, r4, r5, r6, r7, r8, r9, r10⟩ := k1.cells
      obtain ⟨t0, t1, t2⟩ := k3.cells
      dsimp only at HEV
      clear k1 k3
      unfold endU at r0 r1 r2 r3 r4 r5 r6 r7 r8 r9 r10 t0 t1 t2 HEV
      go_wp2_with (first
        | (have h := KU.out; refine wpList_store_row rfl 29 (.tmp 2) (.tmp 114) rfl w.heap.size #[.slice Ag L.length cg, .int .i64 a.has, .int .i64 a.origin, .slice Ap np cp, .int .u32 a.hop, .int .u32 a.med, .int .u32 a.pref, .int .u32 a.aas, .int .u32 a.aid, .slice Ac nc c3, .slice Ah H.length ch] rfl rfl _ _ h (by kernel_rfl) rfl (by simp [Value.oneCell']) ?_; clear h; clear KU f0 f1 f2 f3 f4 f5 f6 f7 f8 f9 f10)
        | (have h := KN.out; refine wpList_store_row rfl 41 (.tmp 3) (.tmp 115) rfl (w.heap.size + 1) #[.int .i64 0, .int .i64 0, .slice none 0 0] rfl rfl _ _ h (by kernel_rfl) rfl (by simp [Value.oneCell']) ?_; clear h; clear KN))
      (try simp only [Exit.inBlock, Exit.then])
      refine bodyPost_ret (v := .tuple #[.agg #[.slice Ag L.length cg, .int .i64 a.has, .int .i64 a.origin, .slice Ap np cp, .int .u32 a.hop, .int .u32 a.med, .int .u32 a.pref, .int .u32 a.aas, .int .u32 a.aid, .slice Ac nc c3, .slice Ah H.length ch], .agg #[.int .i64 0, .int .i64 0, .slice none 0 0]]) (by simp [results, Tryz.results17, go_sem, r0, r1, r2, r3, r4, r5, r6, r7, r8, r9, r10, t0, t1, t2]) rfl ?_
      exact HEV.out
theorem rdec_any (v : Value) (b : List Nat) (w : World) (hv : U8s w v b) (hl : b.length ≤ 1600) : Calls Tryz.prog 17 #[v] w (DecU b w) := by
  by_cases h : b.length < 2
  · exact rdec_short v b w hv h
  · exact rdec_long v b w hv (by omega) hl
end Go.Proofs.YtlhdjdnflpilbaaGreatDoor.Upd
